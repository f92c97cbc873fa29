package matchings_test

import (
	"math"
	"slices"
	"testing"

	"salesroom/api"
	"salesroom/matchings"
)

// far are numbers far off all that may be: of items, of bidders, of how many there are.
var far = []int{-2, -3, -8, -9, -256, math.MinInt, math.MinInt + 1, 9, 10, 16, 255, 256, 1 << 31, 1 << 32, 1<<32 + 1, math.MaxInt - 1, math.MaxInt}

// upTo is 0, 1 .., so many.
func upTo(n int) []int {
	var l []int
	for i := range n {
		l = append(l, i)
	}
	return l
}

// none is so many that have no item.
func none(n int) []int {
	return slices.Repeat([]int{-1}, n)
}

// listOf is the places of a mask's bits, rising.
func listOf(mask int) []int {
	l := []int{}
	for i := range 8 {
		if mask>>i&1 == 1 {
			l = append(l, i)
		}
	}
	return l
}

// chain is who may have the item of its own number, and the one before that: 0, 0 1, 1 2 ..
func chain(n int) [][]int {
	g := [][]int{}
	for i := range n {
		g = append(g, []int{i - 1, i})
	}
	g[0] = []int{0}
	return g
}

// rises is whether these are rising numbers of 0 to many less one, told by the words alone.
func rises(l []int, many int) bool {
	for i, n := range l {
		if n < 0 || n >= many || i > 0 && n <= l[i-1] {
			return false
		}
	}
	return true
}

// mayBe is whether that may be who may have what, told by the words alone.
func mayBe(g [][]int, items int) bool {
	if items < 0 || items > 8 || len(g) > 8 {
		return false
	}
	for _, l := range g {
		if !rises(l, items) {
			return false
		}
	}
	return true
}

// fits is whether all have what they may have, and nobody else has, told by the words alone.
func fits(g [][]int, has []int) bool {
	if len(has) != len(g) {
		return false
	}
	for bidder, item := range has {
		if item != -1 && (!slices.Contains(g[bidder], item) || slices.Contains(has[:bidder], item)) {
			return false
		}
	}
	return true
}

// having is who has an item.
func having(has []int) []int {
	var l []int
	for bidder, item := range has {
		if item != -1 {
			l = append(l, bidder)
		}
	}
	return l
}

// wayed is what all have when one goes a way to one more, if there is one, told by the words of a search alone.
func wayed(g [][]int, has []int, from int) []int {
	by := map[int]int{}
	for waiting := []int{from}; len(waiting) > 0; waiting = waiting[1:] {
		for _, item := range g[waiting[0]] {
			if _, was := by[item]; was {
				continue
			}
			by[item] = waiting[0]
			if owner := slices.Index(has, item); owner != -1 {
				waiting = append(waiting, owner)
				continue
			}
			l := slices.Clone(has)
			for item != -1 {
				bidder := by[item]
				l[bidder], item = item, has[bidder]
			}
			return l
		}
	}
	return has
}

// told is the matching that comes of none, when each goes a way to one more, told by the words alone.
func told(g [][]int) []int {
	has := none(len(g))
	for bidder := range g {
		has = wayed(g, has, bidder)
	}
	return has
}

// most is how many of some can have an item at once, of all ways to give them any.
func most(g [][]int, some []int) int {
	best := slices.Repeat([]int{-1}, 256) // by the set of items that are given away: so many have one; -1: it can't be
	best[0] = 0
	for _, bidder := range some {
		next := slices.Clone(best)
		for used, many := range best {
			for _, item := range g[bidder] {
				if many >= 0 && used>>item&1 == 0 {
					next[used|1<<item] = max(next[used|1<<item], many+1)
				}
			}
		}
		best = next
	}
	return slices.Max(best)
}

// near is how many items some may have.
func near(g [][]int, some []int) int {
	items := map[int]bool{}
	for _, bidder := range some {
		for _, item := range g[bidder] {
			items[item] = true
		}
	}
	return len(items)
}

// left is how many are left of all bidders, when of some, wherever that is the most, as many are taken away as they are more than what is near to them.
func left(g [][]int) int {
	away := 0
	for mask := range 1 << len(g) {
		some := listOf(mask)
		away = max(away, len(some)-near(g, some))
	}
	return len(g) - away
}

// same is whether two lists of lists are; an empty list and none are the same.
func same(a, b [][]int) bool {
	return slices.EqualFunc(a, b, slices.Equal[[]int])
}

func clone(g [][]int) [][]int {
	h := [][]int{}
	for _, l := range g {
		h = append(h, slices.Clone(l))
	}
	return h
}

// mostIs fails unless that is what Most answers.
func mostIs(t *testing.T, g [][]int, items int, want []int) {
	t.Helper()
	if l, e := matchings.Most(g, items); e != api.OK || !slices.Equal(l, want) {
		t.Errorf("Most(%v, %d) = %v, %d, want %v", g, items, l, e, want)
	}
}

// allIs fails unless that is what All answers.
func allIs(t *testing.T, g [][]int, items int, some []int, want bool) {
	t.Helper()
	if can, e := matchings.All(g, items, some); e != api.OK || can != want {
		t.Errorf("All(%v, %d, %v) = %v, %d, want %v", g, items, some, can, e, want)
	}
}

// someMayNotBe fails unless All tells that these are not some that may be.
func someMayNotBe(t *testing.T, g [][]int, items int, some []int) {
	t.Helper()
	if can, e := matchings.All(g, items, some); e != api.ErrArg || can {
		t.Errorf("All(%v, %d, %v) = %v, %d", g, items, some, can, e)
	}
}

// mayNotBe fails unless both calls tell that that may not be, whatever some are.
func mayNotBe(t *testing.T, g [][]int, items int) {
	t.Helper()
	if l, e := matchings.Most(g, items); e != api.ErrArg || len(l) != 0 {
		t.Errorf("Most(%v, %d) = %v, %d", g, items, l, e)
	}
	for _, some := range [][]int{nil, {0}, upTo(len(g)), {1, 0}, {-1}, {len(g)}} {
		someMayNotBe(t, g, items, some)
	}
}

// check holds both calls against the words, whatever comes in.
func check(t *testing.T, g [][]int, items int, some []int) {
	t.Helper()
	switch {
	case !mayBe(g, items):
		mayNotBe(t, g, items)
		someMayNotBe(t, g, items, some)
	case !rises(some, len(g)):
		mostIs(t, g, items, told(g))
		someMayNotBe(t, g, items, some)
	default:
		mostIs(t, g, items, told(g))
		allIs(t, g, items, some, most(g, some) == len(some))
	}
}

// small calls f with all that may be, of at most three bidders and four items, or four and three.
func small(f func(g [][]int, items int)) {
	for items := range 5 {
		for bidders := range 5 {
			if items*bidders > 12 {
				continue
			}
			for all := range 1 << (items * bidders) {
				g := [][]int{}
				for bidder := range bidders {
					g = append(g, listOf(all>>(items*bidder)&(1<<items-1)))
				}
				f(g, items)
			}
		}
	}
}

// draw is numbers that hang on the seed alone.
type draw int

func (d *draw) below(n int) int {
	*d = (*d*1103515245 + 12345) & math.MaxInt32
	return int(*d>>11) % n
}

// some calls f with a few of what may be, of each size: empty, full and mixed, of few and of many that may be had.
func some(f func(g [][]int, items int)) {
	for bidders := range 9 {
		for items := range 9 {
			for seed := range 24 {
				d := draw(seed*7919 + bidders*31 + items)
				g := [][]int{}
				for range bidders {
					mask := d.below(256)
					switch {
					case seed == 0:
						mask = 0
					case seed == 1:
						mask = 255
					case seed%3 == 0:
						mask &= d.below(256)
					case seed%3 == 1:
						mask &= d.below(256) & d.below(256)
					}
					g = append(g, listOf(mask&(1<<items-1)))
				}
				f(g, items)
			}
		}
	}
}

// each calls f with all that is small, and with a few of each size.
func each(f func(g [][]int, items int)) {
	small(f)
	some(f)
}

// The chapter's examples.
func TestExamples(t *testing.T) {
	mostIs(t, [][]int{{0}, {0, 1}}, 2, []int{0, 1})
	mostIs(t, [][]int{{0}, {0}}, 1, []int{0, api.None})
	g := [][]int{{0}, {0}, {1}}
	allIs(t, g, 2, []int{0, 2}, true)
	allIs(t, g, 2, []int{0, 1}, false)
	someMayNotBe(t, g, 2, []int{1, 0})
}

// P8.1: no lists, one, as many as there may be; no items, one, as many as there may be; lists that are empty.
func TestMostAtTheEdges(t *testing.T) {
	for items := range 9 {
		mostIs(t, nil, items, nil)
		mostIs(t, [][]int{}, items, nil)
		for bidders := 1; bidders <= 8; bidders++ {
			mostIs(t, make([][]int, bidders), items, none(bidders))
			full := slices.Repeat([][]int{upTo(items)}, bidders)
			mostIs(t, full, items, append(upTo(min(bidders, items)), none(max(bidders-items, 0))...))
		}
		for item := range items {
			mostIs(t, [][]int{{item}}, items, []int{item})
			mostIs(t, [][]int{nil, {}, {item}, nil}, items, []int{-1, -1, item, -1})
			mostIs(t, slices.Repeat([][]int{{item}}, 8), items, append([]int{item}, none(7)...))
		}
	}
}

// P8.1: whom each takes an item from, and which one it has in the end: one that others leave it, or one that it has only because they took another.
func TestWhoHasWhat(t *testing.T) {
	for _, c := range []struct {
		g     [][]int
		items int
		want  []int
	}{
		// The first one takes what another one wants.
		{[][]int{{0, 1}, {0}}, 2, []int{1, 0}},
		{[][]int{{0, 1}, {0}}, 3, []int{1, 0}},
		{[][]int{{0, 1}, {0, 1}}, 2, []int{0, 1}},
		{[][]int{{0}, {0, 1}}, 2, []int{0, 1}},
		{[][]int{{0, 2}, {1}, {0}}, 3, []int{2, 1, 0}},
		{[][]int{{0, 1}, {0, 1}, {0, 1}}, 2, []int{0, 1, -1}},
		// The last one has an item because all others take another.
		{[][]int{{0, 1}, {1, 2}, {0}}, 3, []int{1, 2, 0}},
		{[][]int{{0, 3}, {0, 1}, {1, 2}, {0}}, 4, []int{3, 1, 2, 0}},
		{[][]int{{0, 1}, {1, 2}, {2, 3}, {0}}, 4, []int{1, 2, 3, 0}},
		{[][]int{{0, 1}, {0, 2}, {0}}, 3, []int{1, 2, 0}},
		{[][]int{{0, 1}, {0, 1, 2}, {0, 1}}, 3, []int{0, 2, 1}},
		{[][]int{{0, 1}, {0, 1, 2}, {0}}, 3, []int{1, 2, 0}},
		{[][]int{{1, 7}, {1, 4}, {4, 7}, {1}, {4}}, 8, []int{1, 4, 7, -1, -1}},
		{[][]int{{1, 7}, {1, 4}, {4, 5}, {1}, {4}}, 8, []int{7, 4, 5, 1, -1}},
		// The shortest way is gone, not the one by the least item.
		{[][]int{{0, 2}, {0, 1}}, 3, []int{0, 1}},
		{[][]int{{0}, {1}, {0, 1}, {2, 3}}, 4, []int{0, 1, -1, 2}},
		{[][]int{{0, 2}, {1, 3}, {0, 1}}, 4, []int{2, 1, 0}},
		{[][]int{{0, 1}, {1, 3}, {0, 2}, {0, 1, 4}}, 5, []int{0, 1, 2, 4}},
		{[][]int{{0, 1}, {1, 3}, {2, 4}, {0, 2}}, 5, []int{0, 1, 4, 2}},
		// More bidders than items; who can't have one doesn't hinder those behind it.
		{[][]int{{0}, {0}, {0, 1}}, 2, []int{0, -1, 1}},
		{[][]int{{1}, {1}, {0, 1}, {0, 1}}, 2, []int{1, -1, 0, -1}},
		{[][]int{{0, 1}, {0, 1}, {0, 1}, {2}}, 3, []int{0, 1, -1, 2}},
		{[][]int{{2}, nil, {0, 2}, {2}, {1}, {0, 1, 2}}, 3, []int{2, -1, 0, -1, 1, -1}},
	} {
		mostIs(t, c.g, c.items, c.want)
	}
}

// P8.1: each number of bidders, of which the last one moves all others on, or stays without an item.
func TestAllMoveOn(t *testing.T) {
	for n := 1; n <= 8; n++ {
		g := chain(n)
		mostIs(t, g, n, upTo(n))
		slices.Reverse(g)
		back := upTo(n)
		slices.Reverse(back)
		mostIs(t, g, n, back)

		// 0 1, 1 2 .., and, last, 0: all others have the less one of theirs till then.
		on := append(chain(n)[1:], []int{0})
		mostIs(t, on, n, append(upTo(n)[1:], 0))
		if n > 1 {
			on[n-2] = []int{n - 2}
			mostIs(t, on, n, append(upTo(n-1), -1))
		}
	}
}

// P8.1, P8.2: both calls against the words, of all that is small and of each size; of all bidders, none, one, and each set of a few.
func TestAgainstTheWords(t *testing.T) {
	each(func(g [][]int, items int) {
		mostIs(t, g, items, told(g))
		for mask := 0; mask < 1<<len(g); mask += 1 + mask>>4 {
			l := listOf(mask)
			allIs(t, g, items, l, most(g, l) == len(l))
		}
		all := upTo(len(g))
		allIs(t, g, items, all, most(g, all) == len(all))
	})
}

// P8.3: what Most answers fits, no matching has more, and it has just as many as are left; who goes first has an item, if it may have any.
func TestAsManyAsCanBe(t *testing.T) {
	each(func(g [][]int, items int) {
		l, e := matchings.Most(g, items)
		if e != api.OK || !fits(g, l) {
			t.Fatalf("Most(%v, %d) = %v, %d", g, items, l, e)
		}
		if many := len(having(l)); many != most(g, upTo(len(g))) || many != left(g) {
			t.Errorf("Most(%v, %d) = %v: most %d, left %d", g, items, l, most(g, upTo(len(g))), left(g))
		}
		if len(g) > 0 && (l[0] != -1) != (len(g[0]) > 0) {
			t.Errorf("Most(%v, %d) = %v: the first one", g, items, l)
		}
	})
}

// P8.3: who goes first has an item, at each place at which one is the first that may have any; so have all who can beside those ahead of them.
func TestWhoGoesFirst(t *testing.T) {
	each(func(g [][]int, items int) {
		l, _ := matchings.Most(g, items)
		for bidder := range g {
			ahead := having(l[:bidder])
			can := most(g, append(slices.Clone(ahead), bidder)) > len(ahead)
			if (l[bidder] != -1) != can {
				t.Errorf("Most(%v, %d) = %v: bidder %d", g, items, l, bidder)
			}
		}
	})
	for bidder := range 8 {
		g := make([][]int, 8)
		g[bidder] = []int{3}
		for other := bidder + 1; other < 8; other++ {
			g[other] = []int{3}
		}
		want := none(8)
		want[bidder] = 3
		mostIs(t, g, 8, want)
	}
}

// P8.2: of none, of one, of all.
func TestAllOfNoneOneAndAll(t *testing.T) {
	for items := range 9 {
		for bidders := range 9 {
			full := slices.Repeat([][]int{upTo(items)}, bidders)
			empty := make([][]int, bidders)
			for _, nobody := range [][]int{nil, {}, upTo(8)[:0]} {
				allIs(t, full, items, nobody, true)
				allIs(t, empty, items, nobody, true)
			}
			for bidder := range bidders {
				allIs(t, full, items, []int{bidder}, items > 0)
				allIs(t, empty, items, []int{bidder}, false)
				one := make([][]int, bidders)
				one[bidder] = upTo(items)
				for other := range bidders {
					allIs(t, one, items, []int{other}, other == bidder && items > 0)
				}
			}
			for mask := range 1 << bidders {
				l := listOf(mask)
				allIs(t, full, items, l, len(l) <= items)
				allIs(t, empty, items, l, len(l) == 0)
			}
		}
	}
	for n := 1; n <= 8; n++ {
		allIs(t, chain(n), n, upTo(n), true)
		allIs(t, append(chain(n)[1:], []int{0}), n, upTo(n), true)
	}
}

// P8.2: some between which there is no room, and some that Most leaves out though each of them can have an item.
func TestAllOfSome(t *testing.T) {
	for _, c := range []struct {
		g     [][]int
		items int
		some  []int
		want  bool
	}{
		// Some that Most leaves out.
		{[][]int{{0}, {0}}, 1, []int{1}, true},
		{[][]int{{0}, {0}}, 1, []int{0}, true},
		{[][]int{{0}, {0}}, 1, []int{0, 1}, false},
		{[][]int{{0}, {0}}, 8, []int{0, 1}, false},
		{[][]int{{0, 1}, {0, 1}, {0, 1}}, 2, []int{2}, true},
		{[][]int{{0, 1}, {0, 1}, {0, 1}}, 2, []int{0, 2}, true},
		{[][]int{{0, 1}, {0, 1}, {0, 1}}, 2, []int{1, 2}, true},
		{[][]int{{0, 1}, {0, 1}, {0, 1}}, 2, []int{0, 1, 2}, false},
		{[][]int{{0}, {1}, {0}, {1}}, 2, []int{2, 3}, true},
		{[][]int{{0}, {1}, {0}, {1}}, 2, []int{1, 2}, true},
		{[][]int{{0}, {1}, {0}, {1}}, 2, []int{1, 3}, false},
		{[][]int{{0}, {1}, {0}, {1}}, 2, []int{0, 2}, false},
		{slices.Repeat([][]int{upTo(4)}, 8), 4, []int{4, 5, 6, 7}, true},
		{slices.Repeat([][]int{upTo(4)}, 8), 4, []int{3, 4, 5, 6, 7}, false},
		{slices.Repeat([][]int{{7}}, 8), 8, []int{7}, true},
		// No room between some, though there are as many items as these are.
		{[][]int{{0}, {0}, {1}}, 2, []int{0, 1}, false},
		{[][]int{{0}, {0}, {1}}, 2, []int{1, 2}, true},
		{[][]int{{0, 1}, {0, 1}, {0, 1}, {2, 3, 4}}, 5, []int{0, 1, 2, 3}, false},
		{[][]int{{0, 1}, {0, 1}, {0, 1}, {2, 3, 4}}, 5, []int{0, 2, 3}, true},
		{[][]int{{0, 1}, {1}, {0}, {0, 1, 2}}, 3, []int{0, 1, 2}, false},
		{[][]int{{0, 1}, {1}, {0}, {0, 1, 2}}, 3, []int{1, 2, 3}, true},
		{[][]int{nil, {0}, {1}}, 2, []int{1, 2}, true},
		{[][]int{nil, {0}, {1}}, 2, []int{0, 1, 2}, false},
		// Some have room only because one of them takes another item.
		{[][]int{{0, 1}, {0}}, 2, []int{0, 1}, true},
		{[][]int{{0}, {0, 1}, {1}, {1, 2}}, 3, []int{1, 2, 3}, true},
		{[][]int{{0}, {0, 1}, {1}, {1, 2}}, 3, []int{0, 1, 3}, true},
		{[][]int{{0}, {0, 1}, {1}, {1, 2}}, 3, []int{0, 1, 2}, false},
		{[][]int{{0}, {1}, {0, 1}, {1, 2}, {0}}, 3, []int{2, 3, 4}, true},
	} {
		allIs(t, c.g, c.items, c.some, c.want)
	}
}

// P8.1, P8.2: lists that may not be, too many of them, items below 0 or beyond the most.
func TestListsThatMayNotBe(t *testing.T) {
	for _, items := range append([]int{-1}, far...) {
		mayNotBe(t, nil, items)
		mayNotBe(t, [][]int{nil}, items)
		mayNotBe(t, [][]int{{0}}, items)
		mayNotBe(t, make([][]int, 8), items)
	}
	for _, bidders := range []int{9, 10, 16, 255, 256, 300} {
		for items := range 9 {
			mayNotBe(t, make([][]int, bidders), items)
		}
		mayNotBe(t, slices.Repeat([][]int{{0}}, bidders), 1)
	}
	for items := range 9 {
		bad := [][]int{{-1}, {items}, {items + 1}, {0, items}, {0, 0}, {1, 0}, append(upTo(items), items), append([]int{-1}, upTo(items)...), append(upTo(items), 0)}
		for _, n := range far {
			bad = append(bad, []int{n}, []int{0, n}, []int{n, 0})
		}
		for _, l := range bad {
			if rises(l, items) {
				continue
			}
			for bidders := 1; bidders <= 8; bidders++ {
				for bidder := range bidders {
					g := slices.Repeat([][]int{upTo(items)}, bidders)
					g[bidder] = l
					mayNotBe(t, g, items)
					// Nor where some leave that one out.
					someMayNotBe(t, g, items, slices.Delete(upTo(bidders), bidder, bidder+1))
				}
			}
		}
	}
}

// P8.2: some that do not rise, stand twice, or are no bidders, at each place; also where nobody may have anything.
func TestSomeThatMayNotBe(t *testing.T) {
	for bidders := range 9 {
		bad := [][]int{{-1}, {bidders}, {bidders + 1}, {-1, 0}, append(upTo(bidders), bidders), append([]int{-1}, upTo(bidders)...), append(upTo(bidders), 0)}
		for _, n := range far {
			bad = append(bad, []int{n}, []int{0, n}, []int{n, 0}, append(upTo(bidders), n))
		}
		for bidder := range bidders {
			bad = append(bad, []int{bidder, bidder}, slices.Insert(upTo(bidders), bidder, bidder), slices.Concat(upTo(bidders), []int{bidder}))
			for ahead := range bidder {
				bad = append(bad, []int{bidder, ahead}, []int{ahead, bidder, ahead})
				swapped := upTo(bidders)
				swapped[ahead], swapped[bidder] = swapped[bidder], swapped[ahead]
				bad = append(bad, swapped)
			}
		}
		for _, l := range bad {
			if rises(l, bidders) {
				continue
			}
			for items := range 9 {
				someMayNotBe(t, slices.Repeat([][]int{upTo(items)}, bidders), items, l)
				someMayNotBe(t, make([][]int, bidders), items, l)
			}
		}
	}
}

// roomy is a list with numbers in its spare room.
func roomy(l []int) []int {
	return append(slices.Clone(l), 91, 92, 93)[:len(l)]
}

// roomyLists are lists with more lists in their spare room, and numbers in that of each.
func roomyLists(g [][]int) [][]int {
	h := [][]int{}
	for _, l := range g {
		h = append(h, roomy(l))
	}
	return append(h, []int{77}, []int{78})[:len(g)]
}

// wholeLists are all of these lists, spare room too, as they stand now.
func wholeLists(g [][]int) [][]int {
	h := [][]int{}
	for _, l := range g[:cap(g)] {
		h = append(h, slices.Clone(l[:cap(l)]))
	}
	return h
}

// R4: no call changes what it is handed, spare room neither.
func TestNothingIsChanged(t *testing.T) {
	some(func(one [][]int, items int) {
		g := roomyLists(one)
		before := wholeLists(g)
		matchings.Most(g, items)
		for _, l := range [][]int{nil, {0}, upTo(len(g)), {1, 0}, {-1}} {
			some := roomy(l)
			someBefore := slices.Clone(some[:cap(some)])
			matchings.All(g, items, some)
			if !slices.Equal(some[:cap(some)], someBefore) {
				t.Errorf("%v was %v", some[:cap(some)], someBefore)
			}
		}
		if after := wholeLists(g); !same(after, before) {
			t.Errorf("%v was %v", after, before)
		}
	})
}

// R4: spare room is not part of what is handed in; an empty list is as none.
func TestSpareRoomIsNotRead(t *testing.T) {
	g := [][]int{[]int{0, 1}[:1], []int{0, 1, 5, 5}[:2], []int{9}[:0], {9}, {9}}[:3]
	mostIs(t, g, 2, []int{0, 1, -1})
	allIs(t, g, 2, []int{0, 1, 2, 9}[:2], true)
	allIs(t, g, 2, []int{2, 0}[:1], false)
	someMayNotBe(t, g, 2, []int{0, 3})
	mostIs(t, make([][]int, 3, 300), 8, none(3))
	mostIs(t, make([][]int, 0, 300), 8, nil)
	for _, empty := range [][]int{nil, {}, upTo(3)[:0]} {
		mostIs(t, [][]int{empty, {0}, empty}, 1, []int{-1, 0, -1})
		allIs(t, [][]int{empty, {0}}, 1, []int{1}, true)
		allIs(t, [][]int{empty, {0}}, 1, empty, true)
	}
}

// spoil writes n over all of l, spare room too.
func spoil(l []int, n int) {
	l = l[:cap(l)]
	for i := range l {
		l[i] = n
	}
}

// R4, R5: an answer shares no memory with what was handed in, nor with another answer; nothing that was handed in, or answered before, is kept.
func TestAnswersShareNoMemory(t *testing.T) {
	each(func(g [][]int, items int) {
		handed := clone(g)
		a, _ := matchings.Most(handed, items)
		b, _ := matchings.Most(handed, items)
		spoil(a, 99)
		if !same(handed, g) {
			t.Errorf("of %v, %d: an answer shares memory with what was handed in", g, items)
		}
		for _, l := range handed {
			spoil(l, 99)
		}
		if !slices.Equal(b, told(g)) {
			t.Errorf("of %v, %d: two answers share memory, or what was handed in is kept", g, items)
		}
		mostIs(t, g, items, told(g))
	})
}

// R4: the same list handed in several times is as several, and may be some too.
func TestOneListForMany(t *testing.T) {
	l := []int{0, 1}
	mostIs(t, [][]int{l, l, l}, 2, []int{0, 1, -1})
	allIs(t, [][]int{l, l, l}, 2, l, true)
	allIs(t, [][]int{l, l, l}, 2, []int{0, 1, 2}, false)
	someMayNotBe(t, [][]int{l}, 2, l)
	if !slices.Equal(l, []int{0, 1}) {
		t.Error(l)
	}
}

// R1: long lists, which may not be.
func TestLongLists(t *testing.T) {
	long := upTo(100000)
	mayNotBe(t, [][]int{long}, 8)
	mayNotBe(t, [][]int{nil, make([]int, 100000)}, 8)
	mayNotBe(t, make([][]int, 100000), 8)
	someMayNotBe(t, chain(8), 8, long)
	someMayNotBe(t, chain(8), 8, make([]int, 100000))
}

// numbersOf is small numbers, about the edges, one of each byte.
func numbersOf(b []byte) []int {
	l := []int{}
	for _, n := range b {
		l = append(l, int(int8(n)))
	}
	return l
}

// splitAt is what stands between these bytes.
func splitAt(b []byte, at byte) [][]byte {
	parts := [][]byte{{}}
	for _, n := range b {
		if n == at {
			parts = append(parts, []byte{})
		} else {
			last := len(parts) - 1
			parts[last] = append(parts[last], n)
		}
	}
	return parts
}

// R1, R2, P8.1, P8.2: any lists; the byte 128 parts them.
func FuzzAll(f *testing.F) {
	f.Add(2, []byte{0, 128, 0, 1}, []byte{0, 1})
	f.Add(2, []byte{0, 1, 128, 0, 128, 1}, []byte{1, 2})
	f.Add(1, []byte{0, 128, 0}, []byte{1, 0})
	f.Add(8, []byte{0, 1, 2, 3, 4, 5, 6, 7}, []byte{0})
	f.Add(0, []byte{}, []byte{})
	f.Add(-1, []byte{1, 0}, []byte{255})
	f.Fuzz(func(t *testing.T, items int, all, l []byte) {
		g := [][]int{}
		for _, one := range splitAt(all, 128) {
			g = append(g, numbersOf(one))
		}
		check(t, g, items, numbersOf(l))
	})
}
