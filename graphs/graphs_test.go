package graphs_test

import (
	"math"
	"slices"
	"testing"

	"salesroom/api"
	"salesroom/graphs"
)

// far are numbers far off all that may be: of items, of bidders, of how many there are.
var far = []int{-2, -3, -8, -9, -256, math.MinInt, math.MinInt + 1, 9, 10, 16, 255, 256, 1 << 31, 1 << 32, 1<<32 + 1, math.MaxInt - 1, math.MaxInt}

// example is who may have what, of three items; bidder 2 may have nothing, item 2 may be had by nobody.
func example() [][]int {
	return [][]int{{0, 1}, {1}, nil}
}

// upTo is 0, 1 .., so many.
func upTo(n int) []int {
	var l []int
	for i := range n {
		l = append(l, i)
	}
	return l
}

// listOf is the places of a mask's bits, rising.
func listOf(mask int) []int {
	l := []int{}
	for i := range 8 {
		if mask>>i&1 == 1 {
			l = append(l, i)
		}
	}
	return l
}

// maskOf is the mask that has a bit at each of these places.
func maskOf(l []int) int {
	mask := 0
	for _, n := range l {
		mask |= 1 << n
	}
	return mask
}

// rises is whether these are rising numbers of 0 to many less one, told by the words alone.
func rises(l []int, many int) bool {
	for i, n := range l {
		if n < 0 || n >= many || i > 0 && n <= l[i-1] {
			return false
		}
	}
	return true
}

// mayBe is whether that may be who may have what, told by the words alone.
func mayBe(g [][]int, items int) bool {
	if items < 0 || items > 8 || len(g) > 8 {
		return false
	}
	for _, l := range g {
		if !rises(l, items) {
			return false
		}
	}
	return true
}

// fits is whether it may be a matching of that, told by the words alone.
func fits(g [][]int, items int, has []int) bool {
	if !mayBe(g, items) || len(has) != len(g) {
		return false
	}
	for bidder, item := range has {
		if item == -1 {
			continue
		}
		if !slices.Contains(g[bidder], item) || slices.Contains(has[:bidder], item) {
			return false
		}
	}
	return true
}

// turned is who may have each item, told by the words alone.
func turned(g [][]int, items int) [][]int {
	a := [][]int{}
	for item := range items {
		l := []int{}
		for bidder := range g {
			if slices.Contains(g[bidder], item) {
				l = append(l, bidder)
			}
		}
		a = append(a, l)
	}
	return a
}

// near is what some may have, told by the words alone.
func near(g [][]int, some []int) []int {
	mask := 0
	for _, bidder := range some {
		mask |= maskOf(g[bidder])
	}
	return listOf(mask)
}

// same is whether two lists of lists are; an empty list and none are the same.
func same(a, b [][]int) bool {
	return slices.EqualFunc(a, b, slices.Equal[[]int])
}

func clone(g [][]int) [][]int {
	h := [][]int{}
	for _, l := range g {
		h = append(h, slices.Clone(l))
	}
	return h
}

// sizes calls f with each number of bidders and of items that may be.
func sizes(f func(bidders, items int)) {
	for bidders := range 9 {
		for items := range 9 {
			f(bidders, items)
		}
	}
}

// small calls f with all that may be, of at most three bidders and three items.
func small(f func(g [][]int, items int)) {
	for items := range 4 {
		for bidders := range 4 {
			for all := range 1 << (items * bidders) {
				g := [][]int{}
				for bidder := range bidders {
					g = append(g, listOf(all>>(items*bidder)&(1<<items-1)))
				}
				f(g, items)
			}
		}
	}
}

// some calls f with a few of what may be, of each size: empty, full and mixed.
func some(f func(g [][]int, items int)) {
	sizes(func(bidders, items int) {
		for seed := range 12 {
			g := [][]int{}
			state := seed*7919 + bidders*31 + items
			for range bidders {
				state = (state*1103515245 + 12345) & math.MaxInt32
				mask := state >> 11
				switch seed {
				case 0:
					mask = 0
				case 1:
					mask = 255
				}
				g = append(g, listOf(mask&(1<<items-1)))
			}
			f(g, items)
		}
	})
}

// each calls f with all that is small, and with a few of each size.
func each(f func(g [][]int, items int)) {
	small(f)
	some(f)
}

// mayNotBe fails unless every call tells that that may not be, whatever else comes in.
func mayNotBe(t *testing.T, g [][]int, items int) {
	t.Helper()
	if graphs.Check(g, items) {
		t.Errorf("Check(%v, %d)", g, items)
	}
	if a, e := graphs.Turned(g, items); e != api.ErrArg || len(a) != 0 {
		t.Errorf("Turned(%v, %d) = %v, %d", g, items, a, e)
	}
	for _, has := range [][]int{nil, slices.Repeat([]int{-1}, len(g)), upTo(len(g))} {
		if graphs.Fits(g, items, has) {
			t.Errorf("Fits(%v, %d, %v)", g, items, has)
		}
	}
	for _, l := range [][]int{nil, {0}, upTo(len(g)), {1, 0}, {-1}} {
		if a, e := graphs.Near(g, items, l); e != api.ErrArg || len(a) != 0 {
			t.Errorf("Near(%v, %d, %v) = %v, %d", g, items, l, a, e)
		}
	}
}

// The chapter's examples.
func TestExamples(t *testing.T) {
	g := [][]int{{0, 1}, {1}}
	if !graphs.Check(g, 2) || graphs.Check(g, 1) {
		t.Error("Check")
	}
	if a, e := graphs.Turned(g, 2); e != api.OK || !same(a, [][]int{{0}, {0, 1}}) {
		t.Error("Turned", a, e)
	}
	if !graphs.Fits(g, 2, []int{0, 1}) || graphs.Fits(g, 2, []int{1, 1}) || !graphs.Fits(g, 2, []int{api.None, 1}) {
		t.Error("Fits")
	}
	if n := graphs.Many([]int{api.None, 1}); n != 1 {
		t.Error("Many", n)
	}
	if l, e := graphs.Near(g, 2, []int{1}); e != api.OK || !slices.Equal(l, []int{1}) {
		t.Error("Near", l, e)
	}
	if l, e := graphs.Near(g, 2, []int{1, 0}); e != api.ErrArg || len(l) != 0 {
		t.Error("Near", l, e)
	}
	if l, e := graphs.Near(g, 2, nil); e != api.OK || len(l) != 0 {
		t.Error("Near", l, e)
	}
}

// P6.1: what may be, of each number of bidders and of items.
func TestCheck(t *testing.T) {
	each(func(g [][]int, items int) {
		if !graphs.Check(g, items) {
			t.Errorf("Check(%v, %d)", g, items)
		}
	})
	for items := range 9 {
		if !graphs.Check(nil, items) || !graphs.Check([][]int{}, items) || !graphs.Check(make([][]int, 8), items) {
			t.Errorf("of %d items nobody may have one", items)
		}
	}
}

// P6.1: how many items and bidders there may be.
func TestCheckCounts(t *testing.T) {
	for _, items := range append([]int{-1}, far...) {
		mayNotBe(t, nil, items)
		mayNotBe(t, [][]int{nil}, items)
		mayNotBe(t, [][]int{{0}}, items)
		mayNotBe(t, make([][]int, 8), items)
	}
	for _, bidders := range []int{9, 10, 16, 255, 256, 300} {
		for items := range 9 {
			mayNotBe(t, make([][]int, bidders), items)
		}
		mayNotBe(t, slices.Repeat([][]int{{0}}, bidders), 1)
	}
}

// P6.1: which lists may be, at each place of each size.
func TestCheckLists(t *testing.T) {
	sizes(func(bidders, items int) {
		bad := [][]int{{-1}, {items}, {items + 1}, {-1, items}, {0, 0}, {1, 0}, append(upTo(items), items), append([]int{-1}, upTo(items)...), append(upTo(items), 0)}
		for _, n := range far {
			bad = append(bad, []int{n}, []int{0, n}, []int{n, 0}, []int{n, items})
		}
		for item := range items {
			bad = append(bad, []int{item, item}, slices.Insert(upTo(items), item, item), slices.Concat([]int{item}, upTo(items)), slices.Concat(upTo(items), []int{item}))
			if item > 0 {
				bad = append(bad, []int{item, item - 1}, []int{item - 1, item, item - 1}, []int{item, 0})
			}
		}
		for _, l := range bad {
			if rises(l, items) {
				continue
			}
			for bidder := range bidders {
				for _, others := range [][]int{nil, upTo(items)} {
					g := slices.Repeat([][]int{others}, bidders)
					g[bidder] = l
					mayNotBe(t, g, items)
				}
			}
		}
	})
}

// P6.1: all lists of at most three numbers about the edges, alone and beside one that may be.
func TestCheckAllShortLists(t *testing.T) {
	for items := -1; items <= 3; items++ {
		shortLists(-2, 4, 3, func(l []int) {
			for _, g := range [][][]int{{l}, {nil, l}, {l, nil}} {
				if got := graphs.Check(g, items); got != mayBe(g, items) {
					t.Errorf("Check(%v, %d) = %v", g, items, got)
				}
			}
		})
	}
}

// shortLists calls f with all lists of at most so many numbers, each from low to high.
func shortLists(low, high, most int, f func(l []int)) {
	var grow func(l []int)
	grow = func(l []int) {
		f(slices.Clone(l))
		if len(l) == most {
			return
		}
		for n := low; n <= high; n++ {
			grow(append(slices.Clone(l), n))
		}
	}
	grow(nil)
}

// P6.2: of each item who may have it, rising, of items that nobody may have, too.
func TestTurned(t *testing.T) {
	for _, c := range []struct {
		g     [][]int
		items int
		want  [][]int
	}{
		{nil, 0, nil},
		{nil, 1, [][]int{nil}},
		{nil, 8, make([][]int, 8)},
		{[][]int{nil}, 0, nil},
		{[][]int{nil}, 1, [][]int{nil}},
		{[][]int{{0}}, 1, [][]int{{0}}},
		{make([][]int, 8), 0, nil},
		{[][]int{{7}}, 8, [][]int{nil, nil, nil, nil, nil, nil, nil, {0}}},
		{slices.Repeat([][]int{{0}}, 8), 1, [][]int{upTo(8)}},
		{[][]int{upTo(8)}, 8, slices.Repeat([][]int{{0}}, 8)},
		{slices.Repeat([][]int{upTo(8)}, 8), 8, slices.Repeat([][]int{upTo(8)}, 8)},
		{example(), 3, [][]int{{0}, {0, 1}, nil}},
		{[][]int{{2}, {1}, {0}}, 3, [][]int{{2}, {1}, {0}}},
		{[][]int{{1}, nil, {0, 1}, {1}}, 2, [][]int{{2}, {0, 2, 3}}},
	} {
		if a, e := graphs.Turned(c.g, c.items); e != api.OK || !same(a, c.want) {
			t.Errorf("Turned(%v, %d) = %v, %d, want %v", c.g, c.items, a, e, c.want)
		}
	}
	each(func(g [][]int, items int) {
		if a, e := graphs.Turned(g, items); e != api.OK || !same(a, turned(g, items)) {
			t.Errorf("Turned(%v, %d) = %v, %d", g, items, a, e)
		}
	})
}

// P6.5: turned twice, it is as it was; by either side as many may have something.
func TestTurnedTwice(t *testing.T) {
	each(func(g [][]int, items int) {
		a, _ := graphs.Turned(g, items)
		if !graphs.Check(a, len(g)) {
			t.Errorf("Turned(%v, %d) = %v may not be", g, items, a)
		}
		if b, e := graphs.Turned(a, len(g)); e != api.OK || !same(b, g) {
			t.Errorf("%v of %d items, turned twice, is %v, %d", g, items, b, e)
		}
		if one, other := entries(g), entries(a); one != other {
			t.Errorf("%v has %d entries, turned %d", g, one, other)
		}
	})
}

// entries is how many numbers there are in all lists.
func entries(g [][]int) int {
	n := 0
	for _, l := range g {
		n += len(l)
	}
	return n
}

// P6.3: ordinary matchings, and each way in which one does not fit.
func TestFits(t *testing.T) {
	full := slices.Repeat([][]int{upTo(8)}, 8)
	for _, c := range []struct {
		g     [][]int
		items int
		has   []int
		want  bool
	}{
		{nil, 0, nil, true},
		{nil, 8, []int{}, true},
		{nil, 0, []int{-1}, false},
		{nil, 1, []int{0}, false},
		{[][]int{nil}, 0, []int{-1}, true},
		{[][]int{nil}, 0, []int{0}, false},
		{[][]int{nil}, 0, nil, false},
		{[][]int{nil}, 1, []int{0}, false},
		{[][]int{{0}}, 1, []int{0}, true},
		{[][]int{{0}}, 1, []int{-1}, true},
		{[][]int{{0}}, 1, []int{1}, false},
		{[][]int{{0}}, 1, []int{-2}, false},
		{[][]int{{0}}, 1, []int{0, -1}, false},
		{example(), 3, []int{0, 1, -1}, true},
		{example(), 3, []int{1, -1, -1}, true},
		{example(), 3, []int{-1, -1, -1}, true},
		{example(), 3, []int{-1, 1, -1}, true},
		{example(), 3, []int{1, 1, -1}, false},
		{example(), 3, []int{0, 0, -1}, false},
		{example(), 3, []int{-1, 0, -1}, false},
		{example(), 3, []int{-1, 2, -1}, false},
		{example(), 3, []int{2, -1, -1}, false},
		{example(), 3, []int{-1, -1, 0}, false},
		{example(), 3, []int{-1, -1, 2}, false},
		{example(), 3, []int{-2, -1, -1}, false},
		{example(), 3, []int{3, -1, -1}, false},
		{example(), 3, []int{0, 1}, false},
		{example(), 3, []int{0, 1, -1, -1}, false},
		{example(), 3, []int{0, 1, -1, 0}, false},
		{example(), 3, nil, false},
		{[][]int{{0}, {0}}, 1, []int{-1, 0}, true},
		{[][]int{{0}, {0}}, 1, []int{0, 0}, false},
		{full, 8, upTo(8), true},
		{full, 8, []int{7, 6, 5, 4, 3, 2, 1, 0}, true},
		{full, 8, slices.Repeat([]int{-1}, 8), true},
		{full, 8, []int{0, 1, 2, 3, 4, 5, 6, 0}, false},
		{full, 8, []int{0, 1, 2, 3, 4, 5, 7, 7}, false},
		{full, 8, upTo(9), false},
		{full, 8, upTo(7), false},
		{full, 8, append(upTo(7), 8), false},
	} {
		if got := graphs.Fits(c.g, c.items, c.has); got != c.want {
			t.Errorf("Fits(%v, %d, %v) = %v", c.g, c.items, c.has, got)
		}
	}
	for _, n := range far {
		for at := range 3 {
			has := []int{0, 1, -1}
			has[at] = n
			if graphs.Fits(example(), 3, has) {
				t.Errorf("Fits(.., %v)", has)
			}
		}
		if graphs.Fits([][]int{upTo(8)}, 8, []int{n}) {
			t.Errorf("Fits(.., %d)", n)
		}
	}
}

// P6.3: all lists of what at most three have, of all that is small.
func TestFitsOfSmall(t *testing.T) {
	var lists [][]int
	shortLists(-2, 3, 3, func(l []int) { lists = append(lists, l) })
	small(func(g [][]int, items int) {
		for _, has := range lists {
			if got := graphs.Fits(g, items, has); got != fits(g, items, has) {
				t.Errorf("Fits(%v, %d, %v) = %v", g, items, has, got)
			}
		}
	})
}

// P6.3: matchings of each size, and each one changed at one place.
func TestFitsOfEachSize(t *testing.T) {
	some(func(g [][]int, items int) {
		has := slices.Repeat([]int{-1}, len(g))
		for bidder, l := range g {
			for _, item := range l {
				if !slices.Contains(has, item) {
					has[bidder] = item
				}
			}
		}
		if !graphs.Fits(g, items, has) {
			t.Errorf("Fits(%v, %d, %v)", g, items, has)
		}
		if graphs.Fits(g, items, append(slices.Clone(has), -1)) || len(has) > 0 && graphs.Fits(g, items, has[:len(has)-1]) {
			t.Errorf("%v of %d items fits %v, too long or too short", g, items, has)
		}
		for bidder := range has {
			for item := -2; item <= items; item++ {
				o := slices.Clone(has)
				o[bidder] = item
				if got := graphs.Fits(g, items, o); got != fits(g, items, o) {
					t.Errorf("Fits(%v, %d, %v) = %v", g, items, o, got)
				}
			}
		}
	})
}

// P6.3: how many are not None, of any numbers.
func TestMany(t *testing.T) {
	for _, c := range []struct {
		has  []int
		want int
	}{
		{nil, 0}, {[]int{}, 0}, {[]int{-1}, 0}, {[]int{0}, 1}, {[]int{-1, 0}, 1}, {[]int{-1, -1, -1}, 0},
		{[]int{0, 0, 0}, 3}, {[]int{-1, 0, 5, -2}, 3}, {[]int{1, -1, 2, -1}, 2}, {[]int{-1, -1, 1}, 1}, {upTo(8), 8},
		{[]int{math.MinInt, math.MaxInt, -2, 8, 9}, 5}, {make([]int, 300), 300}, {append(make([]int, 300), -1), 300}, {slices.Repeat([]int{-1}, 300), 0},
	} {
		if got := graphs.Many(c.has); got != c.want {
			t.Errorf("Many(%v) = %d, want %d", c.has, got, c.want)
		}
	}
	for _, n := range far {
		if got := graphs.Many([]int{n, -1}); got != 1 {
			t.Errorf("Many(%d, None) = %d", n, got)
		}
	}
}

// P6.3, P6.5: of what fits, as many bidders have something as items are had.
func TestManyAreHad(t *testing.T) {
	var lists [][]int
	shortLists(-1, 2, 3, func(l []int) { lists = append(lists, l) })
	small(func(g [][]int, items int) {
		for _, has := range lists {
			if !graphs.Fits(g, items, has) {
				continue
			}
			owners := slices.Repeat([]int{-1}, items)
			for bidder, item := range has {
				if item != -1 {
					owners[item] = bidder
				}
			}
			back, e := graphs.Turned(g, items)
			if e != api.OK || !graphs.Fits(back, len(g), owners) || graphs.Many(has) != graphs.Many(owners) {
				t.Errorf("of %v, %v have, and %v are had", g, has, owners)
			}
		}
	})
}

// P6.4: what is near to all parts of the bidders, of each size.
func TestNear(t *testing.T) {
	for _, c := range []struct {
		g     [][]int
		items int
		some  []int
		want  []int
	}{
		{nil, 0, nil, nil},
		{nil, 8, []int{}, nil},
		{[][]int{nil}, 0, []int{0}, nil},
		{[][]int{{0}}, 1, []int{0}, []int{0}},
		{[][]int{{0}}, 1, nil, nil},
		{example(), 3, []int{0, 2}, []int{0, 1}},
		{example(), 3, []int{1, 2}, []int{1}},
		{example(), 3, []int{2}, nil},
		{example(), 3, upTo(3), []int{0, 1}},
		{[][]int{{2}, {1}, {0}}, 3, []int{0, 2}, []int{0, 2}},
		{[][]int{{7}, {0, 3}}, 8, []int{0, 1}, []int{0, 3, 7}},
		{slices.Repeat([][]int{upTo(8)}, 8), 8, upTo(8), upTo(8)},
		{slices.Repeat([][]int{upTo(8)}, 8), 8, []int{7}, upTo(8)},
		{slices.Repeat([][]int{{5}}, 8), 8, upTo(8), []int{5}},
	} {
		if l, e := graphs.Near(c.g, c.items, c.some); e != api.OK || !slices.Equal(l, c.want) {
			t.Errorf("Near(%v, %d, %v) = %v, %d, want %v", c.g, c.items, c.some, l, e, c.want)
		}
	}
	each(func(g [][]int, items int) {
		for mask := range 1 << len(g) {
			l := listOf(mask)
			if a, e := graphs.Near(g, items, l); e != api.OK || !slices.Equal(a, near(g, l)) {
				t.Errorf("Near(%v, %d, %v) = %v, %d", g, items, l, a, e)
			}
		}
	})
}

// P6.4: what is near to all is just what somebody may have.
func TestNearToAll(t *testing.T) {
	each(func(g [][]int, items int) {
		want := []int{}
		for item, l := range turned(g, items) {
			if len(l) > 0 {
				want = append(want, item)
			}
		}
		if a, e := graphs.Near(g, items, upTo(len(g))); e != api.OK || !slices.Equal(a, want) {
			t.Errorf("Near(%v, %d, all) = %v, %d", g, items, a, e)
		}
	})
}

// P6.4: some that are not such.
func TestNearToNone(t *testing.T) {
	sizes(func(bidders, items int) {
		g := slices.Repeat([][]int{upTo(items)}, bidders)
		bad := [][]int{{-1}, {bidders}, {-1, 0}, {0, -1}, {0, 0}, {1, 0}, append(upTo(bidders), bidders), append(upTo(bidders), 0), append([]int{-1}, upTo(bidders)...), upTo(9), upTo(300)}
		for _, n := range far {
			bad = append(bad, []int{n}, []int{0, n}, []int{n, 0}, append(upTo(bidders), n))
		}
		for bidder := range bidders {
			bad = append(bad, []int{bidder, bidder}, slices.Insert(upTo(bidders), bidder, bidder))
			if bidder > 0 {
				bad = append(bad, []int{bidder, bidder - 1}, []int{bidder, 0})
			}
		}
		for _, l := range bad {
			if rises(l, bidders) {
				continue
			}
			if a, e := graphs.Near(g, items, l); e != api.ErrArg || len(a) != 0 {
				t.Errorf("Near(%v, %d, %v) = %v, %d", g, items, l, a, e)
			}
		}
	})
	shortLists(-2, 4, 4, func(l []int) {
		a, e := graphs.Near(example(), 3, l)
		if ok := rises(l, 3); ok && (e != api.OK || !slices.Equal(a, near(example(), l))) || !ok && (e != api.ErrArg || len(a) != 0) {
			t.Errorf("Near(.., %v) = %v, %d", l, a, e)
		}
	})
}

// P6.5: what is near to some is near to more.
func TestNearToMore(t *testing.T) {
	some(func(g [][]int, items int) {
		for mask := range 1 << len(g) {
			few, _ := graphs.Near(g, items, listOf(mask))
			for bidder := range g {
				more, e := graphs.Near(g, items, listOf(mask|1<<bidder))
				if all := maskOf(few) | maskOf(g[bidder]); e != api.OK || maskOf(more) != all {
					t.Errorf("of %v, %v is near to %v, and %v with %d", g, few, listOf(mask), more, bidder)
				}
			}
		}
	})
}

// roomy is a list with numbers in its spare room.
func roomy(l []int) []int {
	return append(slices.Clone(l), 91, 92, 93)[:len(l)]
}

// roomyLists are lists with more lists in their spare room, and numbers in that of each.
func roomyLists(g [][]int) [][]int {
	h := [][]int{}
	for _, l := range g {
		h = append(h, roomy(l))
	}
	return append(h, []int{77}, []int{78})[:len(g)]
}

// wholeLists are all of these lists, spare room too, as they stand now.
func wholeLists(g [][]int) [][]int {
	h := [][]int{}
	for _, l := range g[:cap(g)] {
		h = append(h, slices.Clone(l[:cap(l)]))
	}
	return h
}

// R4: no call changes what it is handed, spare room neither.
func TestNothingIsChanged(t *testing.T) {
	for _, c := range []struct {
		g     [][]int
		items int
	}{{example(), 3}, {example(), 1}, {example(), 9}, {[][]int{{1, 0}}, 2}, {slices.Repeat([][]int{upTo(8)}, 8), 8}, {nil, 0}} {
		for _, l := range [][]int{nil, {0}, {2}, {0, 1, 2}, {1, 0}, {-1, -1, -1}, {0, 1, -1}, {-1}, upTo(8)} {
			g, list := roomyLists(c.g), roomy(l)
			before, listBefore := wholeLists(g), slices.Clone(list[:cap(list)])
			graphs.Check(g, c.items)
			graphs.Turned(g, c.items)
			graphs.Fits(g, c.items, list)
			graphs.Many(list)
			graphs.Near(g, c.items, list)
			if after := wholeLists(g); !same(after, before) || !slices.Equal(list[:cap(list)], listBefore) {
				t.Errorf("%v was %v; or %v was %v", after, before, list[:cap(list)], listBefore)
			}
		}
	}
}

// R4: spare room is not part of what is handed in.
func TestSpareRoomIsNotRead(t *testing.T) {
	room := [][]int{[]int{0, 1, 5, 5}[:2], []int{1, 0}[:1], []int{9}[:0], {9}, {9}}[:3]
	if !graphs.Check(room, 3) || !graphs.Check(make([][]int, 3, 300), 3) {
		t.Error("Check")
	}
	if a, e := graphs.Turned(room, 3); e != api.OK || !same(a, turned(example(), 3)) {
		t.Error("Turned", a, e)
	}
	if !graphs.Fits(room, 3, []int{0, 1, -1, 7}[:3]) || graphs.Fits(room, 3, []int{0, 1, -1}[:2]) {
		t.Error("Fits")
	}
	if n := graphs.Many([]int{0, 1, 2}[:2]); n != 2 {
		t.Error("Many", n)
	}
	if l, e := graphs.Near(room, 3, []int{1, 0}[:1]); e != api.OK || !slices.Equal(l, []int{1}) {
		t.Error("Near", l, e)
	}
}

// spoil writes n over all of l, spare room too.
func spoil(l []int, n int) {
	l = l[:cap(l)]
	for i := range l {
		l[i] = n
	}
}

// spoilLists writes over all lists, then over the list of them, spare room too.
func spoilLists(g [][]int) {
	for _, l := range g {
		spoil(l, 99)
	}
	g = g[:cap(g)]
	for i := range g {
		g[i] = []int{99}
	}
}

// R4: lists within one answer share no memory, spare room too.
func TestListsShareNoMemory(t *testing.T) {
	each(func(g [][]int, items int) {
		a, _ := graphs.Turned(g, items)
		for i, l := range a {
			spoil(l, i)
		}
		for i, l := range a {
			for _, n := range l[:cap(l)] {
				if n != i {
					t.Errorf("Turned(%v, %d): list %d shares memory with list %d", g, items, i, n)
				}
			}
		}
	})
}

// R4: an answer shares no memory with what was handed in, nor with another answer.
func TestAnswersShareNoMemory(t *testing.T) {
	each(func(g [][]int, items int) {
		handed, all := clone(g), upTo(len(g))
		a, _ := graphs.Turned(handed, items)
		b, _ := graphs.Turned(handed, items)
		c, _ := graphs.Near(handed, items, all)
		d, _ := graphs.Near(handed, items, all)
		spoilLists(a)
		spoil(c, 99)
		if !same(handed, g) || !slices.Equal(all, upTo(len(g))) {
			t.Errorf("of %v: an answer shares memory with what was handed in", g)
		}
		spoilLists(handed)
		spoil(all, 99)
		if !same(b, turned(g, items)) || !slices.Equal(d, near(g, upTo(len(g)))) {
			t.Errorf("of %v: two answers share memory, or what was handed in is kept", g)
		}
	})
}

// R4: the same list handed in several times is as several.
func TestOneListForMany(t *testing.T) {
	l := []int{0, 1}
	g := [][]int{l, l}
	if a, e := graphs.Turned(g, 2); e != api.OK || !same(a, [][]int{{0, 1}, {0, 1}}) {
		t.Error(a, e)
	}
	if a, e := graphs.Near(g, 2, l); e != api.OK || !slices.Equal(a, l) || !graphs.Fits(g, 2, l) {
		t.Error(a, e)
	}
	if !slices.Equal(l, []int{0, 1}) {
		t.Error(l)
	}
}

// R1: long lists, of what may and what may not be.
func TestLongLists(t *testing.T) {
	long := upTo(100000)
	mayNotBe(t, [][]int{long}, 8)
	mayNotBe(t, [][]int{nil, make([]int, 100000)}, 8)
	mayNotBe(t, make([][]int, 100000), 8)
	if graphs.Fits(example(), 3, long) || graphs.Many(long) != 100000 {
		t.Error("Fits, Many")
	}
	if l, e := graphs.Near(example(), 3, long); e != api.ErrArg || len(l) != 0 {
		t.Error(l, e)
	}
}

// numbersOf is small numbers, about the edges, one of each byte.
func numbersOf(b []byte) []int {
	l := []int{}
	for _, n := range b {
		l = append(l, int(int8(n)))
	}
	return l
}

// R1, R2, P6.1 to P6.4: any lists; the byte 128 parts them.
func FuzzAll(f *testing.F) {
	f.Add(2, []byte{0, 1, 128, 1}, []byte{0, 1})
	f.Add(3, []byte{0, 1, 128, 1, 128}, []byte{255, 1, 255})
	f.Add(8, []byte{0, 1, 2, 3, 4, 5, 6, 7}, []byte{7})
	f.Add(0, []byte{}, []byte{})
	f.Add(-1, []byte{1, 0}, []byte{254})
	f.Fuzz(func(t *testing.T, items int, all, l []byte) {
		g := [][]int{}
		for _, one := range splitAt(all, 128) {
			g = append(g, numbersOf(one))
		}
		has := numbersOf(l)
		ok := mayBe(g, items)
		if graphs.Check(g, items) != ok || graphs.Fits(g, items, has) != fits(g, items, has) {
			t.Errorf("Check or Fits of %v, %d, %v", g, items, has)
		}
		a, e := graphs.Turned(g, items)
		if ok && (e != api.OK || !same(a, turned(g, items))) || !ok && (e != api.ErrArg || len(a) != 0) {
			t.Errorf("Turned(%v, %d) = %v, %d", g, items, a, e)
		}
		n, e := graphs.Near(g, items, has)
		ok = ok && rises(has, len(g))
		if ok && (e != api.OK || !slices.Equal(n, near(g, has))) || !ok && (e != api.ErrArg || len(n) != 0) {
			t.Errorf("Near(%v, %d, %v) = %v, %d", g, items, has, n, e)
		}
		if many := graphs.Many(has); many != len(has)-count(has, -1) {
			t.Errorf("Many(%v) = %d", has, many)
		}
	})
}

// splitAt is what stands between these bytes.
func splitAt(b []byte, at byte) [][]byte {
	parts := [][]byte{{}}
	for _, n := range b {
		if n == at {
			parts = append(parts, []byte{})
		} else {
			last := len(parts) - 1
			parts[last] = append(parts[last], n)
		}
	}
	return parts
}

// count is how often n stands there.
func count(l []int, n int) int {
	many := 0
	for _, one := range l {
		if one == n {
			many++
		}
	}
	return many
}
