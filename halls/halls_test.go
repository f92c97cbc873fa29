package halls_test

import (
	"math"
	"slices"
	"testing"

	"salesroom/api"
	"salesroom/halls"
	"salesroom/matchings"
)

// far are numbers far off all that may be: of items, of bidders, of how many there are.
var far = []int{-2, -3, -8, -9, -256, math.MinInt, math.MinInt + 1, 9, 10, 16, 255, 256, 1 << 31, 1 << 32, 1<<32 + 1, math.MaxInt - 1, math.MaxInt}

// upTo is 0, 1 .., so many.
func upTo(n int) []int {
	var l []int
	for i := range n {
		l = append(l, i)
	}
	return l
}

// listOf is the places of a mask's bits, rising.
func listOf(mask int) []int {
	l := []int{}
	for i := range 8 {
		if mask>>i&1 == 1 {
			l = append(l, i)
		}
	}
	return l
}

// maskOf is the numbers of a list, each a bit.
func maskOf(l []int) int {
	mask := 0
	for _, n := range l {
		mask |= 1 << n
	}
	return mask
}

// chain is who may have the item of its own number, and the one before that: 0, 0 1, 1 2 ..
func chain(n int) [][]int {
	g := [][]int{}
	for i := range n {
		g = append(g, []int{i - 1, i})
	}
	g[0] = []int{0}
	return g
}

// rises is whether these are rising numbers of 0 to many less one, told by the words alone.
func rises(l []int, many int) bool {
	for i, n := range l {
		if n < 0 || n >= many || i > 0 && n <= l[i-1] {
			return false
		}
	}
	return true
}

// mayBe is whether that may be who may have what, told by the words alone.
func mayBe(g [][]int, items int) bool {
	if items < 0 || items > 8 || len(g) > 8 {
		return false
	}
	for _, l := range g {
		if !rises(l, items) {
			return false
		}
	}
	return true
}

// nothingBut is who of some want nothing but the items of a mask.
func nothingBut(g [][]int, some []int, mask int) []int {
	l := []int{}
	for _, bidder := range some {
		if maskOf(g[bidder])&^mask == 0 {
			l = append(l, bidder)
		}
	}
	return l
}

// wantAny is how many of these want any item of a mask.
func wantAny(g [][]int, these []int, mask int) int {
	many := 0
	for _, bidder := range these {
		if maskOf(g[bidder])&mask != 0 {
			many++
		}
	}
	return many
}

// less is whether a set of items is to be told ahead of another one: fewer, or as many and the first list.
func less(a, b []int) bool {
	if len(a) != len(b) {
		return len(a) < len(b)
	}
	return slices.Compare(a, b) < 0
}

// told is the set of all items' sets that is too few and stands ahead of all others that are, told by the words alone.
func told(g [][]int, items int, some []int) ([]int, bool) {
	var best []int
	found := false
	for mask := range 1 << items {
		l := listOf(mask)
		if len(nothingBut(g, some, mask)) > len(l) && (!found || less(l, best)) {
			best, found = l, true
		}
	}
	return best, found
}

// room is whether all of some can have an item at once, of all ways to give them any.
func room(g [][]int, some []int, taken int) bool {
	if len(some) == 0 {
		return true
	}
	for _, item := range g[some[0]] {
		if taken>>item&1 == 0 && room(g, some[1:], taken|1<<item) {
			return true
		}
	}
	return false
}

// same is whether two lists of lists are; an empty list and none are the same.
func same(a, b [][]int) bool {
	return slices.EqualFunc(a, b, slices.Equal[[]int])
}

func clone(g [][]int) [][]int {
	h := [][]int{}
	for _, l := range g {
		h = append(h, slices.Clone(l))
	}
	return h
}

// fewIs fails unless Few finds that set.
func fewIs(t *testing.T, g [][]int, items int, some []int, want []int) {
	t.Helper()
	if l, found, e := halls.Few(g, items, some); e != api.OK || !found || !slices.Equal(l, want) {
		t.Errorf("Few(%v, %d, %v) = %v, %v, %d, want %v", g, items, some, l, found, e, want)
	}
}

// noFew fails unless Few finds no set.
func noFew(t *testing.T, g [][]int, items int, some []int) {
	t.Helper()
	if l, found, e := halls.Few(g, items, some); e != api.OK || found || len(l) != 0 {
		t.Errorf("Few(%v, %d, %v) = %v, %v, %d, want none", g, items, some, l, found, e)
	}
}

// asTold fails unless Few answers what the words tell.
func asTold(t *testing.T, g [][]int, items int, some []int) {
	t.Helper()
	if want, found := told(g, items, some); found {
		fewIs(t, g, items, some, want)
	} else {
		noFew(t, g, items, some)
	}
}

// someMayNotBe fails unless Few tells that these are not some that may be, or that nothing of it may be.
func someMayNotBe(t *testing.T, g [][]int, items int, some []int) {
	t.Helper()
	if l, found, e := halls.Few(g, items, some); e != api.ErrArg || found || len(l) != 0 {
		t.Errorf("Few(%v, %d, %v) = %v, %v, %d, want ErrArg", g, items, some, l, found, e)
	}
}

// mayNotBe fails unless Few tells that that may not be, whatever some are.
func mayNotBe(t *testing.T, g [][]int, items int) {
	t.Helper()
	for _, some := range [][]int{nil, {0}, upTo(len(g)), {1, 0}, {-1}, {len(g)}} {
		someMayNotBe(t, g, items, some)
	}
}

// check holds Few against the words, whatever comes in.
func check(t *testing.T, g [][]int, items int, some []int) {
	t.Helper()
	if !mayBe(g, items) || !rises(some, len(g)) {
		someMayNotBe(t, g, items, some)
	} else {
		asTold(t, g, items, some)
	}
}

// small calls f with all that may be, of at most three bidders and four items, or four and three.
func small(f func(g [][]int, items int)) {
	for items := range 5 {
		for bidders := range 5 {
			if items*bidders > 12 {
				continue
			}
			for all := range 1 << (items * bidders) {
				g := [][]int{}
				for bidder := range bidders {
					g = append(g, listOf(all>>(items*bidder)&(1<<items-1)))
				}
				f(g, items)
			}
		}
	}
}

// draw is numbers that hang on the seed alone.
type draw int

func (d *draw) below(n int) int {
	*d = (*d*1103515245 + 12345) & math.MaxInt32
	return int(*d>>11) % n
}

// drawn is who may have what: empty, full and mixed, of few and of many that may be had; who may have none has, mostly, one.
func drawn(bidders, items, seed int) [][]int {
	d := draw(seed*7919 + bidders*31 + items)
	g := [][]int{}
	for range bidders {
		mask := d.below(256)
		switch {
		case seed == 0:
			mask = 0
		case seed == 1:
			mask = 255
		case seed%3 == 0:
			mask &= d.below(256)
		case seed%3 == 1:
			mask &= d.below(256) & d.below(256)
		}
		if mask &= 1<<items - 1; mask == 0 && items > 0 && seed%4 > 1 {
			mask = 1 << d.below(items)
		}
		g = append(g, listOf(mask))
	}
	return g
}

// some calls f with a few of what may be, of each size.
func some(f func(g [][]int, items int)) {
	for bidders := range 9 {
		for items := range 9 {
			for seed := range 24 {
				f(drawn(bidders, items, seed), items)
			}
		}
	}
}

// each calls f with all that is small, and with a few of each size; of all bidders, none, one, and a few more of each.
func each(f func(g [][]int, items int, some []int)) {
	one := func(g [][]int, items int) {
		for mask := 0; mask < 1<<len(g); mask += 1 + mask>>4 {
			f(g, items, listOf(mask))
		}
		f(g, items, upTo(len(g)))
	}
	small(one)
	some(one)
}

// The chapter's examples.
func TestExamples(t *testing.T) {
	g := [][]int{{0}, {0}, {1}}
	fewIs(t, g, 2, []int{0, 1, 2}, []int{0})
	noFew(t, g, 2, []int{0, 2})
	fewIs(t, [][]int{nil, {0}}, 1, []int{0, 1}, nil)
	fewIs(t, [][]int{{0, 1}, {0, 1}, {0, 1}}, 2, []int{0, 1, 2}, []int{0, 1})
}

// P9.1: Few against the words, of all that is small and of each size.
func TestAgainstTheWords(t *testing.T) {
	each(func(g [][]int, items int, some []int) { asTold(t, g, items, some) })
}

// P9.1: no lists, one, as many as there may be; no items, one, as many as there may be.
func TestAtTheEdges(t *testing.T) {
	for items := range 9 {
		noFew(t, nil, items, nil)
		noFew(t, [][]int{}, items, []int{})
		fewIs(t, [][]int{nil}, items, []int{0}, nil)
		fewIs(t, make([][]int, 8), items, upTo(8), nil)
		for item := range items {
			noFew(t, [][]int{{item}}, items, []int{0})
			fewIs(t, slices.Repeat([][]int{{item}}, 2), items, []int{0, 1}, []int{item})
			fewIs(t, slices.Repeat([][]int{{item}}, 8), items, upTo(8), []int{item})
		}
	}
	noFew(t, chain(8), 8, upTo(8))
	noFew(t, append(chain(8)[1:], []int{0}), 8, upTo(8))
}

// P9.1: bidders whose list is empty: no items at all are too few for each of these, whatever others want; but only if it is one of some.
func TestOneThatMayHaveNothing(t *testing.T) {
	for items := range 9 {
		for bidders := 1; bidders <= 8; bidders++ {
			for bidder := range bidders {
				for _, others := range [][]int{nil, upTo(items), upTo(min(items, 1))} {
					g := slices.Repeat([][]int{others}, bidders)
					g[bidder] = nil
					fewIs(t, g, items, []int{bidder}, nil)
					fewIs(t, g, items, upTo(bidders), nil)
					asTold(t, g, items, slices.Delete(upTo(bidders), bidder, bidder+1))
				}
			}
		}
	}
	g := [][]int{nil, {0}, {}, {1}, {1}}
	noFew(t, g, 2, []int{1, 3})
	fewIs(t, g, 2, []int{1, 3, 4}, []int{1})
	fewIs(t, g, 2, []int{1, 2, 3, 4}, nil)
}

// P9.1: as many who want the same items as there are of these, and one more; at each place of the items, and among others who want more.
func TestOneTooMany(t *testing.T) {
	for mask := range 256 {
		items := listOf(mask)
		same := slices.Repeat([][]int{items}, len(items))
		noFew(t, same, 8, upTo(len(items)))
		if len(items) == 8 {
			continue // there are no more bidders than that
		}
		g := append(same, items)
		for len(g) < 8 {
			g = append(g, upTo(8))
		}
		fewIs(t, g, 8, upTo(len(items)+1), items)
		fewIs(t, g, 8, upTo(8), items)
		noFew(t, g, 8, upTo(8)[1:])
		slices.Reverse(g)
		fewIs(t, g, 8, upTo(8), items)
		noFew(t, g, 8, upTo(7))
	}
}

// P9.1: several sets of as few items that are too few: the first list of these; whatever bidders stand first.
func TestTheFirstOfAsFew(t *testing.T) {
	for one := range 8 {
		for other := range one {
			g := [][]int{{one}, {one}, {other}, {other}}
			fewIs(t, g, 8, upTo(4), []int{other})
			fewIs(t, g, 8, []int{0, 1, 2}, []int{one})
			slices.Reverse(g)
			fewIs(t, g, 8, upTo(4), []int{other})
		}
	}
	for one := range 256 {
		for other := range one {
			a, b := listOf(one), listOf(other)
			if len(a) != len(b) || len(a) == 0 || 2*len(a)+2 > 8 {
				continue
			}
			g := slices.Concat(slices.Repeat([][]int{a}, len(a)+1), slices.Repeat([][]int{b}, len(b)+1))
			first := a
			if slices.Compare(b, a) < 0 {
				first = b
			}
			fewIs(t, g, 8, upTo(len(g)), first)
			slices.Reverse(g)
			fewIs(t, g, 8, upTo(len(g)), first)
		}
	}
	// Lists are held against each other, not the numbers of their bits, nor their last items.
	fewIs(t, [][]int{{1, 2}, {1, 2}, {1, 2}, {0, 7}, {0, 7}, {0, 7}}, 8, upTo(6), []int{0, 7})
	fewIs(t, [][]int{{1, 2, 3}, {1, 2, 3}, {1, 2, 3}, {1, 2, 3}, {0, 6, 7}, {0, 6, 7}, {0, 6, 7}, {0, 6, 7}}, 8, upTo(8), []int{0, 6, 7})
}

// P9.1: fewer items that stand behind others that are too few, or that are some of them.
func TestFewerBehindOthers(t *testing.T) {
	for _, c := range []struct {
		g    [][]int
		want []int
	}{
		{[][]int{{0, 1}, {0, 1}, {0, 1}, {7}, {7}}, []int{7}},
		{[][]int{{0, 1, 2}, {0, 1, 2}, {0, 1, 2}, {0, 1, 2}, {6, 7}, {6, 7}, {6, 7}}, []int{6, 7}},
		{[][]int{{0, 1}, {0, 1}, {0, 1}, {3}, {3}, {2}, {2}}, []int{2}},
		{[][]int{{0, 1}, {0, 1}, {1}, {1}}, []int{1}},
		{[][]int{{0, 1, 2}, {0, 1, 2}, {1, 2}, {1, 2}, {1, 2}}, []int{1, 2}},
		{[][]int{{0, 1, 2}, {0, 1, 2}, {1, 2}, {2}, {2}}, []int{2}},
		{[][]int{{0, 1, 2}, {0, 1, 2}, {1, 2}, {1, 2}}, []int{0, 1, 2}},
		{[][]int{{0}, {0}, nil}, nil},
		// Too few only together: each part has room.
		{[][]int{{0, 1}, {1, 2}, {0, 2}, {0, 1, 2}}, []int{0, 1, 2}},
		{[][]int{{0, 1}, {1, 2}, {2, 3}, {0, 3}, {0, 2}}, []int{0, 1, 2, 3}},
		{[][]int{{0, 4}, {4, 6}, {0, 6}, {4, 6}, {1}, {2}}, []int{0, 4, 6}},
		{append(chain(7), []int{6}), upTo(7)},
		{[][]int{{0, 1}, {1, 2}, {2, 3}, {3, 4}, {4, 5}, {5, 6}, {0, 6}, {0, 3}}, upTo(7)},
	} {
		fewIs(t, c.g, 8, upTo(len(c.g)), c.want)
	}
	noFew(t, [][]int{{0, 1}, {1, 2}, {0, 2}}, 3, upTo(3))
}

// P9.1: some that are none, one, all; more of some find a set that is no greater.
func TestNoneOneAllAndMore(t *testing.T) {
	each(func(g [][]int, items int, some []int) {
		for _, nobody := range [][]int{nil, {}, upTo(8)[:0]} {
			noFew(t, g, items, nobody)
		}
		l, found, _ := halls.Few(g, items, some)
		for bidder, may := range g {
			if len(may) == 0 {
				fewIs(t, g, items, []int{bidder}, nil)
			} else {
				noFew(t, g, items, []int{bidder})
			}
			if slices.Contains(some, bidder) {
				continue
			}
			more := slices.Sorted(slices.Values(append(slices.Clone(some), bidder)))
			if k, foundToo, _ := halls.Few(g, items, more); found && (!foundToo || less(l, k)) {
				t.Errorf("Few(%v, %d, ..): %v of %v, %v of %v", g, items, l, some, k, more)
			}
		}
	})
	g := [][]int{{0, 1}, {0, 1}, {0, 1}, {3}, {3}, nil}
	noFew(t, g, 4, []int{0, 1, 3})
	fewIs(t, g, 4, []int{0, 1, 2, 3}, []int{0, 1})
	fewIs(t, g, 4, []int{0, 1, 2, 3, 4}, []int{3})
	fewIs(t, g, 4, upTo(6), nil)
	noFew(t, g, 4, []int{1, 2, 4})
}

// P9.1: what the others may have, who are not of some, is nothing to them.
func TestOthersAreNothingToSome(t *testing.T) {
	some(func(g [][]int, items int) {
		for mask := range 1 << len(g) {
			l := listOf(mask)
			want, found, _ := halls.Few(g, items, l)
			for _, may := range [][]int{nil, upTo(items), upTo(min(items, 1))} {
				h := slices.Repeat([][]int{may}, len(g))
				for _, bidder := range l {
					h[bidder] = g[bidder]
				}
				if k, foundToo, e := halls.Few(h, items, l); e != api.OK || foundToo != found || !slices.Equal(k, want) {
					t.Errorf("Few(%v, %d, %v) = %v, %v, %d, want %v, %v", h, items, l, k, foundToo, e, want, found)
				}
			}
		}
	})
}

// P9.2: there is a set just if not all of some can have one, by matchings.All and of all ways to give them any.
func TestJustIfNotAllCan(t *testing.T) {
	each(func(g [][]int, items int, some []int) {
		_, found, e := halls.Few(g, items, some)
		can, _ := matchings.All(g, items, some)
		if e != api.OK || found == can || can != room(g, some, 0) {
			t.Errorf("Few(%v, %d, %v): %v, %d; All %v", g, items, some, found, e, can)
		}
	})
}

// P9.2: of a set that is told more want nothing but it than it has; each item is wanted by one of these, and of each part, but none, more of these want any than it has.
func TestEachPartOfASet(t *testing.T) {
	sets := 0
	each(func(g [][]int, items int, some []int) {
		l, found, _ := halls.Few(g, items, some)
		if !found {
			return
		}
		sets++
		all := maskOf(l)
		these := nothingBut(g, some, all)
		if !rises(l, items) || len(these) <= len(l) {
			t.Errorf("Few(%v, %d, %v) = %v: %v want nothing but these", g, items, some, l, these)
		}
		for _, item := range l {
			if wantAny(g, these, 1<<item) == 0 {
				t.Errorf("Few(%v, %d, %v) = %v: nobody wants %d", g, items, some, l, item)
			}
		}
		for part := all; part != 0; part = (part - 1) & all {
			if many := wantAny(g, these, part); many <= len(listOf(part)) {
				t.Errorf("Few(%v, %d, %v) = %v: %d want any of %v", g, items, some, l, many, listOf(part))
			}
		}
	})
	if sets == 0 {
		t.Error("no set was told")
	}
}

// P9.1: lists that may not be, too many of them, items below 0 or beyond the most.
func TestListsThatMayNotBe(t *testing.T) {
	for _, items := range append([]int{-1}, far...) {
		mayNotBe(t, nil, items)
		mayNotBe(t, [][]int{nil}, items)
		mayNotBe(t, [][]int{{0}}, items)
		mayNotBe(t, make([][]int, 8), items)
	}
	for _, bidders := range []int{9, 10, 16, 255, 256, 300} {
		for items := range 9 {
			mayNotBe(t, make([][]int, bidders), items)
		}
		mayNotBe(t, slices.Repeat([][]int{{0}}, bidders), 1)
	}
	for items := range 9 {
		bad := [][]int{{-1}, {items}, {items + 1}, {0, items}, {0, 0}, {1, 0}, append(upTo(items), items), append([]int{-1}, upTo(items)...), append(upTo(items), 0)}
		for _, n := range far {
			bad = append(bad, []int{n}, []int{0, n}, []int{n, 0})
		}
		for _, l := range bad {
			if rises(l, items) {
				continue
			}
			for bidders := 1; bidders <= 8; bidders++ {
				for bidder := range bidders {
					g := slices.Repeat([][]int{upTo(items)}, bidders)
					g[bidder] = l
					mayNotBe(t, g, items)
					// Nor where some leave that one out.
					someMayNotBe(t, g, items, slices.Delete(upTo(bidders), bidder, bidder+1))
				}
			}
		}
	}
}

// P9.1: some that do not rise, stand twice, or are no bidders, at each place; also where nobody may have anything.
func TestSomeThatMayNotBe(t *testing.T) {
	for bidders := range 9 {
		bad := [][]int{{-1}, {bidders}, {bidders + 1}, {-1, 0}, append(upTo(bidders), bidders), append([]int{-1}, upTo(bidders)...), append(upTo(bidders), 0)}
		for _, n := range far {
			bad = append(bad, []int{n}, []int{0, n}, []int{n, 0}, append(upTo(bidders), n))
		}
		for bidder := range bidders {
			bad = append(bad, []int{bidder, bidder}, slices.Insert(upTo(bidders), bidder, bidder), slices.Concat(upTo(bidders), []int{bidder}))
			for ahead := range bidder {
				bad = append(bad, []int{bidder, ahead}, []int{ahead, bidder, ahead})
				swapped := upTo(bidders)
				swapped[ahead], swapped[bidder] = swapped[bidder], swapped[ahead]
				bad = append(bad, swapped)
			}
		}
		for _, l := range bad {
			if rises(l, bidders) {
				continue
			}
			for items := range 9 {
				someMayNotBe(t, slices.Repeat([][]int{upTo(items)}, bidders), items, l)
				someMayNotBe(t, make([][]int, bidders), items, l)
			}
		}
	}
}

// roomy is a list with numbers in its spare room.
func roomy(l []int) []int {
	return append(slices.Clone(l), 91, 92, 93)[:len(l)]
}

// roomyLists are lists with more lists in their spare room, and numbers in that of each.
func roomyLists(g [][]int) [][]int {
	h := [][]int{}
	for _, l := range g {
		h = append(h, roomy(l))
	}
	return append(h, []int{77}, []int{78})[:len(g)]
}

// wholeLists are all of these lists, spare room too, as they stand now.
func wholeLists(g [][]int) [][]int {
	h := [][]int{}
	for _, l := range g[:cap(g)] {
		h = append(h, slices.Clone(l[:cap(l)]))
	}
	return h
}

// R4: no call changes what it is handed, spare room neither.
func TestNothingIsChanged(t *testing.T) {
	some(func(one [][]int, items int) {
		g := roomyLists(one)
		before := wholeLists(g)
		for _, l := range [][]int{nil, {0}, upTo(len(g)), {1, 0}, {-1}} {
			some := roomy(l)
			someBefore := slices.Clone(some[:cap(some)])
			halls.Few(g, items, some)
			if !slices.Equal(some[:cap(some)], someBefore) {
				t.Errorf("%v was %v", some[:cap(some)], someBefore)
			}
		}
		if after := wholeLists(g); !same(after, before) {
			t.Errorf("%v was %v", after, before)
		}
	})
}

// R4: spare room is not part of what is handed in; an empty list is as none.
func TestSpareRoomIsNotRead(t *testing.T) {
	g := [][]int{[]int{0, 1}[:1], []int{0, 1, 5, 5}[:1], []int{9}[:0], {9}, {9}}[:3]
	fewIs(t, g, 2, []int{0, 1, 9}[:2], []int{0})
	noFew(t, g, 2, []int{0, 1}[:1])
	noFew(t, g, 2, []int{1, 0}[:1])
	fewIs(t, g, 2, []int{2, 0}[:1], nil)
	someMayNotBe(t, g, 2, []int{0, 3})
	fewIs(t, make([][]int, 3, 300), 8, upTo(3), nil)
	noFew(t, make([][]int, 0, 300), 8, nil)
	for _, empty := range [][]int{nil, {}, upTo(3)[:0]} {
		fewIs(t, [][]int{empty, {0}}, 1, []int{0, 1}, nil)
		noFew(t, [][]int{empty, {0}}, 1, []int{1})
		noFew(t, [][]int{empty, {0}}, 1, empty)
	}
}

// spoil writes n over all of l, spare room too.
func spoil(l []int, n int) {
	l = l[:cap(l)]
	for i := range l {
		l[i] = n
	}
}

// R4, R5: an answer shares no memory with what was handed in, nor with another answer; nothing that was handed in, or answered before, is kept.
func TestAnswersShareNoMemory(t *testing.T) {
	each(func(g [][]int, items int, some []int) {
		handed, someHanded := clone(g), slices.Clone(some)
		want, _ := told(g, items, some)
		a, _, _ := halls.Few(handed, items, someHanded)
		b, _, _ := halls.Few(handed, items, someHanded)
		spoil(a, 99)
		if !same(handed, g) || !slices.Equal(someHanded, some) {
			t.Errorf("of %v, %d, %v: an answer shares memory with what was handed in", g, items, some)
		}
		for _, l := range append(handed, someHanded) {
			spoil(l, 99)
		}
		if !slices.Equal(b, want) {
			t.Errorf("of %v, %d, %v: two answers share memory, or what was handed in is kept", g, items, some)
		}
		asTold(t, g, items, some)
	})
}

// R4: the same list handed in several times is as several, and may be some too.
func TestOneListForMany(t *testing.T) {
	l := []int{0, 1}
	noFew(t, [][]int{l, l, l}, 2, l)
	fewIs(t, [][]int{l, l, l}, 2, []int{0, 1, 2}, l)
	someMayNotBe(t, [][]int{l}, 2, l)
	if !slices.Equal(l, []int{0, 1}) {
		t.Error(l)
	}
}

// R1: long lists, which may not be.
func TestLongLists(t *testing.T) {
	long := upTo(100000)
	mayNotBe(t, [][]int{long}, 8)
	mayNotBe(t, [][]int{nil, make([]int, 100000)}, 8)
	mayNotBe(t, make([][]int, 100000), 8)
	someMayNotBe(t, chain(8), 8, long)
	someMayNotBe(t, chain(8), 8, make([]int, 100000))
}

// numbersOf is small numbers, about the edges, one of each byte.
func numbersOf(b []byte) []int {
	l := []int{}
	for _, n := range b {
		l = append(l, int(int8(n)))
	}
	return l
}

// splitAt is what stands between these bytes.
func splitAt(b []byte, at byte) [][]byte {
	parts := [][]byte{{}}
	for _, n := range b {
		if n == at {
			parts = append(parts, []byte{})
		} else {
			last := len(parts) - 1
			parts[last] = append(parts[last], n)
		}
	}
	return parts
}

// R1, R2, P9.1: any lists; the byte 128 parts them.
func FuzzAll(f *testing.F) {
	f.Add(2, []byte{0, 128, 0, 128, 1}, []byte{0, 1, 2})
	f.Add(2, []byte{0, 1, 128, 0, 1, 128, 0, 1}, []byte{0, 1, 2})
	f.Add(1, []byte{128, 0}, []byte{0, 1})
	f.Add(1, []byte{0, 128, 0}, []byte{1, 0})
	f.Add(8, []byte{0, 1, 2, 3, 4, 5, 6, 7}, []byte{0})
	f.Add(0, []byte{}, []byte{})
	f.Add(-1, []byte{1, 0}, []byte{255})
	f.Fuzz(func(t *testing.T, items int, all, l []byte) {
		g := [][]int{}
		for _, one := range splitAt(all, 128) {
			g = append(g, numbersOf(one))
		}
		check(t, g, items, numbersOf(l))
	})
}
