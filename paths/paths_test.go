package paths_test

import (
	"math"
	"slices"
	"testing"

	"salesroom/api"
	"salesroom/paths"
)

// far are numbers far off all that may be: of items, of bidders, of how many there are.
var far = []int{-2, -3, -8, -9, -256, math.MinInt, math.MinInt + 1, 9, 10, 16, 255, 256, 1 << 31, 1 << 32, 1<<32 + 1, math.MaxInt - 1, math.MaxInt}

// upTo is 0, 1 .., so many.
func upTo(n int) []int {
	var l []int
	for i := range n {
		l = append(l, i)
	}
	return l
}

// none is so many that have no item.
func none(n int) []int {
	return slices.Repeat([]int{-1}, n)
}

// listOf is the places of a mask's bits, rising.
func listOf(mask int) []int {
	l := []int{}
	for i := range 8 {
		if mask>>i&1 == 1 {
			l = append(l, i)
		}
	}
	return l
}

// chain is who may have the item of its own number, and the one before that: 0, 0 1, 1 2 ..
func chain(n int) [][]int {
	g := [][]int{}
	for i := range n {
		g = append(g, []int{i - 1, i})
	}
	g[0] = []int{0}
	return g
}

// rises is whether these are rising numbers of 0 to many less one, told by the words alone.
func rises(l []int, many int) bool {
	for i, n := range l {
		if n < 0 || n >= many || i > 0 && n <= l[i-1] {
			return false
		}
	}
	return true
}

// mayStart is whether a search from there may be, told by the words alone.
func mayStart(g [][]int, items int, has []int, from int) bool {
	if items < 0 || items > 8 || len(g) > 8 || len(has) != len(g) || from < 0 || from >= len(g) || has[from] != -1 {
		return false
	}
	for _, l := range g {
		if !rises(l, items) {
			return false
		}
	}
	for bidder, item := range has {
		if item != -1 && (!slices.Contains(g[bidder], item) || slices.Contains(has[:bidder], item)) {
			return false
		}
	}
	return true
}

// told is a search, step by step as the words have it: who came to which item, who waited, and which item was found first (-1: none).
func told(g [][]int, items int, has []int, from int) (by map[int]int, waited []int, found int) {
	by, found = map[int]int{}, -1
	waiting := []int{from}
	for len(waiting) > 0 {
		bidder := waiting[0]
		waiting, waited = waiting[1:], append(waited, bidder)
		for item := range items {
			if _, was := by[item]; was || !slices.Contains(g[bidder], item) {
				continue
			}
			by[item] = bidder
			if !slices.Contains(has, item) {
				if found == -1 {
					found = item
				}
				continue
			}
			for other, had := range has {
				if had == item {
					waiting = append(waiting, other)
				}
			}
		}
	}
	return by, waited, found
}

// flipped is the matching behind a way, told by the words alone; nil, if nothing was found.
func flipped(g [][]int, items int, has []int, from int) []int {
	by, _, item := told(g, items, has, from)
	if item == -1 {
		return nil
	}
	l := slices.Clone(has)
	for {
		bidder := by[item]
		l[bidder] = item
		if bidder == from {
			return l
		}
		item = has[bidder]
	}
}

// reached is who waited, and what was come to, told by the words alone.
func reached(g [][]int, items int, has []int, from int) (who, what []int) {
	by, waited, _ := told(g, items, has, from)
	for item := range by {
		what = append(what, item)
	}
	return slices.Sorted(slices.Values(waited)), slices.Sorted(slices.Values(what))
}

// most is how many of some can have an item at once, of all ways to give them any.
func most(g [][]int, some []int) int {
	best := map[int]int{0: 0} // by the set of items that are given away
	for _, bidder := range some {
		next := map[int]int{}
		for used, many := range best {
			next[used] = max(next[used], many)
			for _, item := range g[bidder] {
				if used>>item&1 == 0 {
					next[used|1<<item] = max(next[used|1<<item], many+1)
				}
			}
		}
		best = next
	}
	all := 0
	for _, many := range best {
		all = max(all, many)
	}
	return all
}

// same is whether two lists of lists are; an empty list and none are the same.
func same(a, b [][]int) bool {
	return slices.EqualFunc(a, b, slices.Equal[[]int])
}

func clone(g [][]int) [][]int {
	h := [][]int{}
	for _, l := range g {
		h = append(h, slices.Clone(l))
	}
	return h
}

// check holds both calls against the words, whatever comes in.
func check(t *testing.T, g [][]int, items int, has []int, from int) {
	t.Helper()
	if !mayStart(g, items, has, from) {
		mayNotBe(t, g, items, has, from)
		return
	}
	want := flipped(g, items, has, from)
	if l, found, e := paths.More(g, items, has, from); e != api.OK || found != (want != nil) || !slices.Equal(l, want) {
		t.Errorf("More(%v, %d, %v, %d) = %v, %v, %d, want %v", g, items, has, from, l, found, e, want)
	}
	wantWho, wantWhat := reached(g, items, has, from)
	if who, what, e := paths.Reach(g, items, has, from); e != api.OK || !slices.Equal(who, wantWho) || !slices.Equal(what, wantWhat) {
		t.Errorf("Reach(%v, %d, %v, %d) = %v, %v, %d, want %v, %v", g, items, has, from, who, what, e, wantWho, wantWhat)
	}
}

// mayNotBe fails unless both calls tell that that may not be, and nothing else.
func mayNotBe(t *testing.T, g [][]int, items int, has []int, from int) {
	t.Helper()
	if l, found, e := paths.More(g, items, has, from); e != api.ErrArg || found || len(l) != 0 {
		t.Errorf("More(%v, %d, %v, %d) = %v, %v, %d", g, items, has, from, l, found, e)
	}
	if who, what, e := paths.Reach(g, items, has, from); e != api.ErrArg || len(who) != 0 || len(what) != 0 {
		t.Errorf("Reach(%v, %d, %v, %d) = %v, %v, %d", g, items, has, from, who, what, e)
	}
}

// matchings calls f with each matching of that.
func matchings(g [][]int, f func(has []int)) {
	var grow func(has []int)
	grow = func(has []int) {
		if len(has) == len(g) {
			f(slices.Clone(has))
			return
		}
		for _, item := range append([]int{-1}, g[len(has)]...) {
			if item == -1 || !slices.Contains(has, item) {
				grow(append(slices.Clone(has), item))
			}
		}
	}
	grow(nil)
}

// small calls f with all that may be, of at most three bidders and three items, and each of its matchings.
func small(f func(g [][]int, items int, has []int)) {
	for items := range 4 {
		for bidders := range 4 {
			for all := range 1 << (items * bidders) {
				g := [][]int{}
				for bidder := range bidders {
					g = append(g, listOf(all>>(items*bidder)&(1<<items-1)))
				}
				matchings(g, func(has []int) { f(g, items, has) })
			}
		}
	}
}

// draw is numbers that hang on the seed alone.
type draw int

func (d *draw) below(n int) int {
	*d = (*d*1103515245 + 12345) & math.MaxInt32
	return int(*d>>11) % n
}

// matching is one of that, drawn: bidders in turn from one on, each without an item, or with one that nobody has yet.
func (d *draw) matching(g [][]int, full bool) []int {
	has := none(len(g))
	first := d.below(len(g) + 1)
	for i := range g {
		bidder := (first + i) % len(g)
		if !full && d.below(3) == 0 || len(g[bidder]) == 0 {
			continue
		}
		if item := g[bidder][d.below(len(g[bidder]))]; !slices.Contains(has, item) {
			has[bidder] = item
		}
	}
	return has
}

// some calls f with a few of what may be, of each size, and a few matchings: empty, full and mixed, of few and of many that may be had.
func some(f func(g [][]int, items int, has []int)) {
	for bidders := range 9 {
		for items := range 9 {
			for seed := range 24 {
				d := draw(seed*7919 + bidders*31 + items)
				g := [][]int{}
				for range bidders {
					mask := d.below(256)
					switch {
					case seed == 0:
						mask = 0
					case seed == 1:
						mask = 255
					case seed%3 == 0:
						mask &= d.below(256)
					}
					g = append(g, listOf(mask&(1<<items-1)))
				}
				f(g, items, none(bidders))
				for i := range 4 {
					f(g, items, d.matching(g, i > 1))
				}
			}
		}
	}
}

// each calls f with all that is small and with a few of each size, from each bidder that has none.
func each(f func(g [][]int, items int, has []int, from int)) {
	from := func(g [][]int, items int, has []int) {
		for bidder, item := range has {
			if item == -1 {
				f(g, items, has, bidder)
			}
		}
	}
	small(from)
	some(from)
}

// The chapter's examples.
func TestExamples(t *testing.T) {
	g := [][]int{{0}, {0, 1}}
	if l, found, e := paths.More(g, 2, []int{api.None, 0}, 0); e != api.OK || !found || !slices.Equal(l, []int{0, 1}) {
		t.Error(l, found, e)
	}
	if l, found, e := paths.More(g, 2, []int{0, api.None}, 1); e != api.OK || !found || !slices.Equal(l, []int{0, 1}) {
		t.Error(l, found, e)
	}
	one := [][]int{{0}, {0}}
	if l, found, e := paths.More(one, 1, []int{0, api.None}, 1); e != api.OK || found || len(l) != 0 {
		t.Error(l, found, e)
	}
	if who, what, e := paths.Reach(one, 1, []int{0, api.None}, 1); e != api.OK || !slices.Equal(who, []int{0, 1}) || !slices.Equal(what, []int{0}) {
		t.Error(who, what, e)
	}
	if l, found, e := paths.More(g, 2, []int{0, api.None}, 0); e != api.ErrArg || found || len(l) != 0 {
		t.Error(l, found, e)
	}
}

// way is a search, and what is looked for of it; no matching: none is found.
type way struct {
	g         [][]int
	items     int
	has       []int
	from      int
	want      []int
	who, what []int
}

func (w way) check(t *testing.T) {
	t.Helper()
	if l, found, e := paths.More(w.g, w.items, w.has, w.from); e != api.OK || found != (len(w.want) > 0) || !slices.Equal(l, w.want) {
		t.Errorf("More(%v, %d, %v, %d) = %v, %v, %d, want %v", w.g, w.items, w.has, w.from, l, found, e, w.want)
	}
	if who, what, e := paths.Reach(w.g, w.items, w.has, w.from); e != api.OK || !slices.Equal(who, w.who) || !slices.Equal(what, w.what) {
		t.Errorf("Reach(%v, %d, %v, %d) = %v, %v, %d, want %v, %v", w.g, w.items, w.has, w.from, who, what, e, w.who, w.what)
	}
}

// P7.1, P7.2: one that comes at once to an item that nobody has; it has the first one of several.
func TestAtOnce(t *testing.T) {
	full := slices.Repeat([][]int{upTo(8)}, 8)
	for _, w := range []way{
		{[][]int{{0}}, 1, []int{-1}, 0, []int{0}, []int{0}, []int{0}},
		{[][]int{{7}}, 8, []int{-1}, 0, []int{7}, []int{0}, []int{7}},
		{[][]int{{1, 2, 3}}, 4, []int{-1}, 0, []int{1}, []int{0}, []int{1, 2, 3}},
		{[][]int{upTo(8)}, 8, []int{-1}, 0, []int{0}, []int{0}, upTo(8)},
		{[][]int{nil, {0, 2}, {0}}, 3, none(3), 1, []int{-1, 0, -1}, []int{1}, []int{0, 2}},
		{[][]int{nil, {0, 2}, {0}}, 3, none(3), 2, []int{-1, -1, 0}, []int{2}, []int{0}},
		{[][]int{{1}, {0, 2}}, 3, []int{1, -1}, 1, []int{1, 0}, []int{1}, []int{0, 2}},
		{full, 8, none(8), 0, append([]int{0}, none(7)...), []int{0}, upTo(8)},
		{full, 8, none(8), 7, append(none(7), 0), []int{7}, upTo(8)},
	} {
		w.check(t)
	}
}

// P7.1: an item that nobody has ends it, also where one ahead of it is had by one that could go on.
func TestFreeBehindHad(t *testing.T) {
	full := slices.Repeat([][]int{upTo(8)}, 8)
	for _, w := range []way{
		{[][]int{{0, 1}, {0}}, 2, []int{-1, 0}, 0, []int{1, 0}, []int{0, 1}, []int{0, 1}},
		{[][]int{{0, 1}, {0, 2}}, 3, []int{-1, 0}, 0, []int{1, 0}, []int{0, 1}, []int{0, 1, 2}},
		{[][]int{{0, 2}, {0, 1}}, 3, []int{-1, 0}, 0, []int{2, 0}, []int{0, 1}, []int{0, 1, 2}},
		{full, 8, append([]int{-1}, upTo(7)...), 0, []int{7, 0, 1, 2, 3, 4, 5, 6}, upTo(8), upTo(8)},
		{full, 8, []int{7, 6, 5, 4, 3, 2, 0, -1}, 7, []int{7, 6, 5, 4, 3, 2, 0, 1}, upTo(8), upTo(8)},
	} {
		w.check(t)
	}
}

// P7.1, P7.2: one that finds an item by way of one, two and more others; all others have what they had.
func TestByWayOf(t *testing.T) {
	for _, w := range []way{
		{[][]int{{0}, {0, 1}}, 2, []int{-1, 0}, 0, []int{0, 1}, []int{0, 1}, []int{0, 1}},
		{[][]int{{0, 1}, {0}}, 2, []int{0, -1}, 1, []int{1, 0}, []int{0, 1}, []int{0, 1}},
		{[][]int{{0}, {0, 1}, {2}, nil}, 3, []int{-1, 0, 2, -1}, 0, []int{0, 1, 2, -1}, []int{0, 1}, []int{0, 1}},
		{[][]int{{0}, {0, 1}, {1, 2}}, 3, []int{-1, 0, 1}, 0, []int{0, 1, 2}, []int{0, 1, 2}, []int{0, 1, 2}},
		{[][]int{{1, 2}, {0, 1}, {0}}, 3, []int{1, 0, -1}, 2, []int{2, 1, 0}, []int{0, 1, 2}, []int{0, 1, 2}},
		{[][]int{{0, 1}, {1, 2}, {0}}, 3, []int{0, 1, -1}, 2, []int{1, 2, 0}, []int{0, 1, 2}, []int{0, 1, 2}},
		{[][]int{{0}, {0, 1}, {1, 2}, {3}}, 4, []int{-1, 0, -1, 3}, 0, []int{0, 1, -1, 3}, []int{0, 1}, []int{0, 1}},
	} {
		w.check(t)
	}
}

// P7.1, P7.2: by way of as many others as there can be, in whichever order they stand, and of each number less than that.
func TestLongWays(t *testing.T) {
	for n := 1; n <= 8; n++ {
		has := upTo(n)
		for i := range has {
			has[i]--
		}
		way{chain(n), n, has, 0, upTo(n), upTo(n), upTo(n)}.check(t)
		back := chain(n)
		slices.Reverse(back)
		slices.Reverse(has)
		want := upTo(n)
		slices.Reverse(want)
		way{back, n, has, n - 1, want, upTo(n), upTo(n)}.check(t)
		short := chain(n)
		short[n-1] = short[n-1][:len(short[n-1])-1]
		slices.Reverse(has)
		way{short, n, has, 0, nil, upTo(n), upTo(n - 1)}.check(t)
	}
}

// P7.1: who waits longest is taken; by it an item is come to that others, who wait too, may have as well.
func TestWhoWaitsLongest(t *testing.T) {
	for _, w := range []way{
		{[][]int{{0, 1}, {0, 2}, {1, 2}}, 3, []int{-1, 0, 1}, 0, []int{0, 2, 1}, upTo(3), upTo(3)},
		{[][]int{{0, 1}, {1, 2}, {0, 2}}, 3, []int{-1, 1, 0}, 0, []int{0, 1, 2}, upTo(3), upTo(3)},
		{[][]int{{0, 1}, {0, 3}, {1, 2}}, 4, []int{-1, 0, 1}, 0, []int{0, 3, 1}, upTo(3), upTo(4)},
		{[][]int{{0, 1}, {1, 2}, {0, 3}}, 4, []int{-1, 1, 0}, 0, []int{0, 1, 3}, upTo(3), upTo(4)},
		{[][]int{{0, 1}, {0, 2}, {1, 3}, {2, 4}}, 5, []int{-1, 0, 1, 2}, 0, []int{1, 0, 3, 2}, upTo(4), upTo(5)},
		{[][]int{{0, 1}, {0}, {1, 3}, {3}}, 4, []int{-1, 0, 1, 3}, 0, nil, upTo(4), []int{0, 1, 3}},
		{[][]int{{0, 1}, {0, 2}, {1, 2}, {2, 3}}, 4, []int{-1, 0, 1, 2}, 0, []int{0, 2, 1, 3}, upTo(4), upTo(4)},
		{[][]int{{0, 1}, {1, 2}, {0, 2}, {2, 3}}, 4, []int{-1, 1, 0, 2}, 0, []int{0, 1, 2, 3}, upTo(4), upTo(4)},
		{[][]int{{0, 1, 2}, {0}, {1, 4}, {2, 3}}, 5, []int{-1, 0, 1, 2}, 0, []int{1, 0, 4, 2}, upTo(4), upTo(5)},
	} {
		w.check(t)
	}
}

// P7.1, P7.2: a search that finds nothing.
func TestNothingFound(t *testing.T) {
	full := slices.Repeat([][]int{upTo(7)}, 8)
	for _, w := range []way{
		{[][]int{nil}, 0, []int{-1}, 0, nil, []int{0}, nil},
		{[][]int{{}}, 8, []int{-1}, 0, nil, []int{0}, nil},
		{make([][]int, 8), 8, none(8), 7, nil, []int{7}, nil},
		{[][]int{nil, {0}}, 1, none(2), 0, nil, []int{0}, nil},
		{[][]int{nil, {0}}, 1, []int{-1, 0}, 0, nil, []int{0}, nil},
		{[][]int{{0}, {0}}, 1, []int{-1, 0}, 0, nil, []int{0, 1}, []int{0}},
		{[][]int{{0}, {0}, {1}}, 2, []int{0, -1, 1}, 1, nil, []int{0, 1}, []int{0}},
		{[][]int{{0}, {0}, {1}}, 2, []int{0, -1, -1}, 1, nil, []int{0, 1}, []int{0}},
		{[][]int{{0, 1}, {0, 1}, {0, 1}}, 3, []int{0, -1, 1}, 1, nil, upTo(3), []int{0, 1}},
		{[][]int{{1}, {0, 1, 2}, {0}, {1}}, 3, []int{1, 2, 0, -1}, 3, nil, []int{0, 3}, []int{1}},
		{full, 8, append([]int{-1}, upTo(7)...), 0, nil, upTo(8), upTo(7)},
		{full, 8, append(upTo(7), -1), 7, nil, upTo(8), upTo(7)},
		{slices.Repeat([][]int{{7}}, 8), 8, []int{-1, -1, -1, 7, -1, -1, -1, -1}, 5, nil, []int{3, 5}, []int{7}},
	} {
		w.check(t)
	}
}

// P7.2: Reach goes on where an item is found; nobody waits for that; several may wait for one item.
func TestReachGoesOn(t *testing.T) {
	for _, w := range []way{
		{[][]int{{0, 1}, {1, 2}}, 3, []int{-1, 1}, 0, []int{0, 1}, []int{0, 1}, upTo(3)},
		{[][]int{{0, 1}, {0, 2}, {2, 3}}, 4, []int{-1, 0, 2}, 0, []int{1, 0, 2}, upTo(3), upTo(4)},
		{[][]int{{0, 1}, {1, 2}}, 3, []int{-1, -1}, 0, []int{0, -1}, []int{0}, []int{0, 1}},
		{[][]int{{0, 1}, {0, 2}, {1, 2}, {2, 3}}, 4, []int{-1, 0, 1, 2}, 0, []int{0, 2, 1, 3}, upTo(4), upTo(4)},
		{[][]int{{0, 1, 2}, {0, 3}, {1, 3}, {2, 3}, {3}}, 4, []int{-1, 0, 1, 2, 3}, 0, nil, upTo(5), upTo(4)},
		{[][]int{{2, 5}, nil, {5}, {1}, {2, 4}}, 6, []int{-1, -1, 5, 1, 2}, 0, []int{2, -1, 5, 1, 4}, []int{0, 2, 4}, []int{2, 4, 5}},
		{[][]int{{3}, {0}, {0, 3}}, 4, []int{3, -1, 0}, 1, nil, upTo(3), []int{0, 3}},
	} {
		w.check(t)
	}
}

// P7.1, P7.2: both calls against the words, of all that is small and of each size.
func TestAgainstTheWords(t *testing.T) {
	each(func(g [][]int, items int, has []int, from int) { check(t, g, items, has, from) })
}

// having is who has an item.
func having(has []int) []int {
	var l []int
	for bidder, item := range has {
		if item != -1 {
			l = append(l, bidder)
		}
	}
	return l
}

// P7.3: by a way one more has an item, all who had one have one, all items that were had are had; there is a way wherever all of these could have one at once.
func TestOneMore(t *testing.T) {
	each(func(g [][]int, items int, has []int, from int) {
		l, found, e := paths.More(g, items, has, from)
		with := append(having(has), from)
		slices.Sort(with)
		if e != api.OK || found != (most(g, with) == len(with)) {
			t.Errorf("More(%v, %d, %v, %d) = %v, %v, %d", g, items, has, from, l, found, e)
		}
		if !found {
			return
		}
		if len(l) != len(g) || !slices.Equal(having(l), with) {
			t.Fatalf("More(%v, %d, %v, %d) = %v: not one more", g, items, has, from, l)
		}
		for bidder, item := range l {
			if item != -1 && (!slices.Contains(g[bidder], item) || slices.Contains(l[:bidder], item)) {
				t.Errorf("More(%v, %d, %v, %d) = %v: no matching", g, items, has, from, l)
			}
		}
		for _, item := range has {
			if !slices.Contains(l, item) && item != -1 {
				t.Errorf("More(%v, %d, %v, %d) = %v: nobody has %d", g, items, has, from, l, item)
			}
		}
	})
}

// near is what some may have, rising.
func near(g [][]int, some []int) []int {
	mask := 0
	for _, bidder := range some {
		for _, item := range g[bidder] {
			mask |= 1 << item
		}
	}
	return listOf(mask)
}

// P7.3: if there is no way, one more is reached than items, these are all that is near to them, and no matching has more of them.
func TestTooFew(t *testing.T) {
	each(func(g [][]int, items int, has []int, from int) {
		who, what, e := paths.Reach(g, items, has, from)
		if e != api.OK || !rises(who, len(g)) || !rises(what, items) || !slices.Contains(who, from) {
			t.Fatalf("Reach(%v, %d, %v, %d) = %v, %v, %d", g, items, has, from, who, what, e)
		}
		if all := near(g, who); !slices.Equal(what, all) {
			t.Errorf("Reach(%v, %d, %v, %d) = %v, %v: near is %v", g, items, has, from, who, what, all)
		}
		if _, found, _ := paths.More(g, items, has, from); found == (len(who) > len(what)) {
			t.Errorf("More(%v, %d, %v, %d) = %v, and Reach %v, %v", g, items, has, from, found, who, what)
		} else if !found && (len(who) != len(what)+1 || most(g, who) != len(what) || len(having(has)) < len(what)) {
			t.Errorf("Reach(%v, %d, %v, %d) = %v, %v", g, items, has, from, who, what)
		}
	})
}

// P7.1, P7.2: lists that may not be, too many of them, items below 0 or beyond the most.
func TestListsThatMayNotBe(t *testing.T) {
	for _, items := range append([]int{-1}, far...) {
		mayNotBe(t, [][]int{nil}, items, []int{-1}, 0)
		mayNotBe(t, [][]int{{0}}, items, []int{-1}, 0)
		mayNotBe(t, [][]int{{0}, {0}}, items, []int{-1, 0}, 0)
		mayNotBe(t, make([][]int, 8), items, none(8), 7)
		mayNotBe(t, nil, items, nil, 0)
	}
	for _, bidders := range []int{9, 10, 16, 255, 256, 300} {
		for _, from := range []int{0, 7, 8, bidders - 1} {
			mayNotBe(t, make([][]int, bidders), 8, none(bidders), from)
			mayNotBe(t, slices.Repeat([][]int{{0}}, bidders), 1, none(bidders), from)
		}
	}
	for items := range 9 {
		bad := [][]int{{-1}, {items}, {0, items}, {0, 0}, {1, 0}, append(upTo(items), items), append([]int{-1}, upTo(items)...), append(upTo(items), 0)}
		for _, n := range far {
			bad = append(bad, []int{n}, []int{0, n}, []int{n, 0})
		}
		for _, l := range bad {
			if rises(l, items) {
				continue
			}
			for bidders := 1; bidders <= 8; bidders++ {
				for bidder := range bidders {
					g := slices.Repeat([][]int{upTo(items)}, bidders)
					g[bidder] = l
					mayNotBe(t, g, items, none(bidders), 0)
					mayNotBe(t, g, items, none(bidders), bidders-1)
				}
			}
		}
	}
}

// P7.1, P7.2: a matching that is too short, too long, or does not fit, at each place of each size.
func TestMatchingsThatDoNotFit(t *testing.T) {
	each(func(g [][]int, items int, has []int, from int) {
		mayNotBe(t, g, items, has[:len(has)-1], from)
		mayNotBe(t, g, items, append(slices.Clone(has), -1), from)
		mayNotBe(t, g, items, nil, from)
		for bidder := range has {
			for item := -2; item <= items; item++ {
				o := slices.Clone(has)
				o[bidder] = item
				if !mayStart(g, items, o, from) {
					mayNotBe(t, g, items, o, from)
				}
			}
		}
	})
	for _, n := range far {
		for bidder := range 3 {
			has := none(3)
			has[bidder] = n
			for from := range 3 {
				mayNotBe(t, slices.Repeat([][]int{upTo(8)}, 3), 8, has, from)
			}
		}
	}
}

// P7.1, P7.2: from one that is not there, or that has an item.
func TestFromNowhere(t *testing.T) {
	for items := range 9 {
		mayNotBe(t, nil, items, nil, 0)
		mayNotBe(t, [][]int{}, items, []int{}, 0)
		for _, from := range append([]int{-1, 0, 1}, far...) {
			mayNotBe(t, nil, items, nil, from)
		}
		for bidders := 1; bidders <= 8; bidders++ {
			g := slices.Repeat([][]int{upTo(items)}, bidders)
			for _, from := range append([]int{-1, bidders, bidders + 1}, far...) {
				mayNotBe(t, g, items, none(bidders), from)
			}
			for bidder := range min(bidders, items) {
				has := none(bidders)
				has[bidder] = items - 1 - bidder
				for from := range bidders {
					check(t, g, items, has, from)
				}
				mayNotBe(t, g, items, has, bidder)
			}
		}
	}
	small(func(g [][]int, items int, has []int) {
		for from := -1; from <= len(g); from++ {
			check(t, g, items, has, from)
		}
	})
}

// roomy is a list with numbers in its spare room.
func roomy(l []int) []int {
	return append(slices.Clone(l), 91, 92, 93)[:len(l)]
}

// roomyLists are lists with more lists in their spare room, and numbers in that of each.
func roomyLists(g [][]int) [][]int {
	h := [][]int{}
	for _, l := range g {
		h = append(h, roomy(l))
	}
	return append(h, []int{77}, []int{78})[:len(g)]
}

// wholeLists are all of these lists, spare room too, as they stand now.
func wholeLists(g [][]int) [][]int {
	h := [][]int{}
	for _, l := range g[:cap(g)] {
		h = append(h, slices.Clone(l[:cap(l)]))
	}
	return h
}

// R4: no call changes what it is handed, spare room neither.
func TestNothingIsChanged(t *testing.T) {
	some(func(one [][]int, items int, l []int) {
		g, has := roomyLists(one), roomy(l)
		before, hasBefore := wholeLists(g), slices.Clone(has[:cap(has)])
		for from := -1; from <= len(g); from++ {
			paths.More(g, items, has, from)
			paths.Reach(g, items, has, from)
		}
		if after := wholeLists(g); !same(after, before) || !slices.Equal(has[:cap(has)], hasBefore) {
			t.Errorf("%v was %v; or %v was %v", after, before, has[:cap(has)], hasBefore)
		}
	})
}

// R4: spare room is not part of what is handed in; an empty list is as none.
func TestSpareRoomIsNotRead(t *testing.T) {
	g := [][]int{[]int{0, 1}[:1], []int{0, 1, 5, 5}[:2], []int{9}[:0], {9}, {9}}[:3]
	has := []int{-1, 0, -1, 1, 7}[:3]
	way{g, 2, has, 0, []int{0, 1, -1}, []int{0, 1}, []int{0, 1}}.check(t)
	way{g, 2, has, 2, nil, []int{2}, nil}.check(t)
	mayNotBe(t, g, 2, has, 3)
	mayNotBe(t, g, 2, has[:2], 0)
	mayNotBe(t, g[:2], 2, has, 0)
	way{make([][]int, 3, 300), 8, none(300)[:3], 2, nil, []int{2}, nil}.check(t)
	for _, empty := range [][]int{nil, {}, upTo(3)[:0]} {
		way{[][]int{empty, {0}}, 1, none(2), 0, nil, []int{0}, nil}.check(t)
		mayNotBe(t, [][]int{{0}}, 1, empty, 0)
	}
}

// spoil writes n over all of l, spare room too.
func spoil(l []int, n int) {
	l = l[:cap(l)]
	for i := range l {
		l[i] = n
	}
}

// spoilLists writes over all lists, spare room too.
func spoilLists(g [][]int) {
	for _, l := range g {
		spoil(l, 99)
	}
}

// R4: an answer shares no memory with what was handed in, nor with another answer, nor two lists of one; nothing that was handed in is kept.
func TestAnswersShareNoMemory(t *testing.T) {
	each(func(g [][]int, items int, has []int, from int) {
		lists, handed := clone(g), slices.Clone(has)
		a, _, _ := paths.More(lists, items, handed, from)
		b, _, _ := paths.More(lists, items, handed, from)
		who, what, _ := paths.Reach(lists, items, handed, from)
		other, another, _ := paths.Reach(lists, items, handed, from)
		spoil(a, 99)
		spoil(who, 99)
		wantWho, wantWhat := reached(g, items, has, from)
		if !slices.Equal(what, wantWhat) {
			t.Errorf("Reach(%v, %d, %v, %d): its lists share memory", g, items, has, from)
		}
		spoil(what, 99)
		if !same(lists, g) || !slices.Equal(handed, has) {
			t.Errorf("of %v, %d, %v, %d: an answer shares memory with what was handed in", g, items, has, from)
		}
		spoilLists(lists)
		spoil(handed, 99)
		if !slices.Equal(b, flipped(g, items, has, from)) || !slices.Equal(other, wantWho) || !slices.Equal(another, wantWhat) {
			t.Errorf("of %v, %d, %v, %d: two answers share memory, or what was handed in is kept", g, items, has, from)
		}
	})
}

// R4: the same list handed in several times is as several, and a matching may be a bidder's list too.
func TestOneListForMany(t *testing.T) {
	l := []int{0, 1}
	way{[][]int{l, l, l}, 2, []int{1, -1, 0}, 1, nil, upTo(3), []int{0, 1}}.check(t)
	way{[][]int{l, l}, 2, []int{-1, 0}, 0, []int{1, 0}, []int{0, 1}, []int{0, 1}}.check(t)
	mayNotBe(t, [][]int{l, l}, 2, l, 0)
	if !slices.Equal(l, []int{0, 1}) {
		t.Error(l)
	}
}

// R1: long lists, which may not be.
func TestLongLists(t *testing.T) {
	long := upTo(100000)
	mayNotBe(t, [][]int{long}, 8, []int{-1}, 0)
	mayNotBe(t, [][]int{nil, make([]int, 100000)}, 8, none(2), 0)
	mayNotBe(t, make([][]int, 100000), 8, none(100000), 99999)
	mayNotBe(t, chain(8), 8, long, 0)
	mayNotBe(t, chain(8), 8, none(100000), 0)
}

// numbersOf is small numbers, about the edges, one of each byte.
func numbersOf(b []byte) []int {
	l := []int{}
	for _, n := range b {
		l = append(l, int(int8(n)))
	}
	return l
}

// splitAt is what stands between these bytes.
func splitAt(b []byte, at byte) [][]byte {
	parts := [][]byte{{}}
	for _, n := range b {
		if n == at {
			parts = append(parts, []byte{})
		} else {
			last := len(parts) - 1
			parts[last] = append(parts[last], n)
		}
	}
	return parts
}

// R1, R2, P7.1, P7.2: any lists; the byte 128 parts them.
func FuzzAll(f *testing.F) {
	f.Add(2, []byte{0, 128, 0, 1}, []byte{255, 0}, 0)
	f.Add(3, []byte{0, 1, 128, 0, 2, 128, 1, 2}, []byte{255, 0, 1}, 0)
	f.Add(1, []byte{0, 128, 0}, []byte{0, 255}, 1)
	f.Add(8, []byte{0, 1, 2, 3, 4, 5, 6, 7}, []byte{255}, 0)
	f.Add(0, []byte{}, []byte{255}, 0)
	f.Add(-1, []byte{1, 0}, []byte{254}, -1)
	f.Fuzz(func(t *testing.T, items int, all, l []byte, from int) {
		g := [][]int{}
		for _, one := range splitAt(all, 128) {
			g = append(g, numbersOf(one))
		}
		check(t, g, items, numbersOf(l), from)
	})
}
