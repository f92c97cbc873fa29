package firsts_test

import (
	"math"
	"slices"
	"testing"

	"salesroom/api"
	"salesroom/firsts"
	"salesroom/weights"
)

// most is a number that is a limit of what may be gained, or lost.
const most = api.MaxPrice

// none is no item.
const none = api.None

// far are numbers far off all that may be: of items, of gains, of bidders.
var far = []int{most + 1, most + 2, 2 * most, 1 << 31, 1 << 32, 1<<32 + 1, 1 << 62, math.MaxInt - 1, math.MaxInt, -most - 1, -most - 2, -2 * most, -1 << 31, -1 << 32, -1 << 62, math.MinInt + 1, math.MinInt}

// edges are the numbers at which what may be gained changes.
var edges = []int{-most, -1, 0, 1, most}

// upTo is 0, 1 .., so many.
func upTo(n int) []int {
	var l []int
	for i := range n {
		l = append(l, i)
	}
	return l
}

// downFrom is the same, the last one first.
func downFrom(n int) []int {
	l := upTo(n)
	slices.Reverse(l)
	return l
}

// mayBe is whether gains may be, told by the words alone.
func mayBe(gains [][]int, items int) bool {
	if items < 1 || items > 8 || len(gains) > 8 {
		return false
	}
	for _, by := range gains {
		if len(by) != items || slices.Min(by) < -1000000 || slices.Max(by) > 1000000 {
			return false
		}
	}
	return true
}

// isOrder is whether an order has each of so many bidders, once, told by the words alone.
func isOrder(order []int, bidders int) bool {
	return slices.Equal(slices.Sorted(slices.Values(order)), upTo(bidders))
}

// tried is the first of the best of all matchings of those in the order, the first one's item first, and what it gains: each is gone through, a less item ahead of a greater one, none behind all.
func tried(gains [][]int, order []int, taken int) (items []int, best int) {
	if len(order) == 0 {
		return nil, 0
	}
	best = -1
	for item, gain := range append(slices.Clone(gains[order[0]]), 0) {
		if gain < 0 || taken>>item&1 == 1 {
			continue
		}
		mask, has := taken|1<<item, item
		if item == len(gains[order[0]]) {
			mask, has = taken, none
		}
		if behind, n := tried(gains, order[1:], mask); n+gain > best {
			items, best = append([]int{has}, behind...), n+gain
		}
	}
	return items, best
}

// named is the items that bidders in an order have, by the bidders' numbers.
func named(items, order []int) []int {
	has := make([]int, len(order))
	for place, item := range items {
		has[order[place]] = item
	}
	return has
}

// byTrial is what First has to answer, by all matchings.
func byTrial(gains [][]int, order []int) []int {
	items, _ := tried(gains, order, 0)
	return named(items, order)
}

// places is more than any two bests differ by where a bidder's item, told by a figure from 8, of item 0, to 0, of none, is a number's place of base 9: the higher, the further ahead that bidder stands.
const places = 9 * 9 * 9 * 9 * 9 * 9 * 9 * 9

// told is what First has to answer, told by one number: what a matching gains, and behind that, place by place, who has what. The greatest one of all is that of the first of the best.
func told(gains [][]int, items int, order []int) []int {
	figure := make([]int, len(gains))
	for place, bidder := range order {
		figure[bidder] = places
		for range place + 1 {
			figure[bidder] /= 9
		}
	}
	behind := make([]int, 1<<items)
	for bidder := range slices.Backward(gains) {
		next := slices.Clone(behind)
		for taken := range behind {
			for item, gain := range gains[bidder] {
				if gain >= 0 && taken>>item&1 == 0 {
					next[taken] = max(next[taken], gain*places+(8-item)*figure[bidder]+behind[taken|1<<item])
				}
			}
		}
		behind = next
	}
	has := make([]int, len(gains))
	for bidder := range has {
		if n := behind[0] / figure[bidder] % 9; n > 0 {
			has[bidder] = 8 - n
		} else {
			has[bidder] = none
		}
	}
	return has
}

// clone is the same lists in memory of their own.
func clone(g [][]int) [][]int {
	h := [][]int{}
	for _, l := range g {
		h = append(h, slices.Clone(l))
	}
	return h
}

// same is whether two lists of lists are; an empty list and none are the same.
func same(a, b [][]int) bool {
	return slices.EqualFunc(a, b, slices.Equal[[]int])
}

// is fails unless First is that.
func is(t *testing.T, gains [][]int, items int, order, want []int) {
	t.Helper()
	if l, e := firsts.First(gains, items, order); e != api.OK || !slices.Equal(l, want) {
		t.Errorf("First(%v, %d, %v) = %v, %d, want %v", gains, items, order, l, e, want)
	}
}

// asTold fails unless First answers what the words tell.
func asTold(t *testing.T, gains [][]int, items int, order []int) {
	t.Helper()
	is(t, gains, items, order, told(gains, items, order))
}

// mayNotBe fails unless First tells that these may not be, and nothing else.
func mayNotBe(t *testing.T, gains [][]int, items int, order []int) {
	t.Helper()
	if l, e := firsts.First(gains, items, order); e != api.ErrArg || len(l) != 0 {
		t.Errorf("First(%v, %d, %v) = %v, %d, want ErrArg", gains, items, order, l, e)
	}
}

// check holds First against the words, whatever comes in.
func check(t *testing.T, gains [][]int, items int, order []int) {
	t.Helper()
	if mayBe(gains, items) && isOrder(order, len(gains)) {
		asTold(t, gains, items, order)
	} else {
		mayNotBe(t, gains, items, order)
	}
}

// every calls f with all gains of so many bidders and items that have these numbers alone.
func every(bidders, items int, numbers []int, f func(gains [][]int, items int)) {
	many := 1
	for range bidders * items {
		many *= len(numbers)
	}
	for which := range many {
		gains := [][]int{}
		for range bidders {
			by := []int{}
			for range items {
				by = append(by, numbers[which%len(numbers)])
				which /= len(numbers)
			}
			gains = append(gains, by)
		}
		f(gains, items)
	}
}

// orders calls f with each order of so many bidders.
func orders(bidders int, f func(order []int)) {
	var from func(order []int)
	from = func(order []int) {
		if len(order) == bidders {
			f(order)
		}
		for bidder := range bidders {
			if !slices.Contains(order, bidder) {
				from(append(slices.Clone(order), bidder))
			}
		}
	}
	from(nil)
}

// small calls f with all gains of few bidders and items, by few numbers, in each order.
func small(f func(gains [][]int, items int, order []int)) {
	for bidders := range 4 {
		for items := 1; items <= 3; items++ {
			numbers := []int{-1, 0, 1, 3}
			if bidders*items > 6 {
				numbers = []int{-1, 0, 1}
			}
			every(bidders, items, numbers, func(gains [][]int, items int) {
				orders(bidders, func(order []int) { f(gains, items, order) })
			})
		}
	}
}

// draw is numbers that hang on the seed alone.
type draw int

func (d *draw) below(n int) int {
	*d = (*d*1103515245 + 12345) & math.MaxInt32
	return int(*d>>8) % n
}

// drawn is gains of each kind, and an order: of few numbers, of many, of those at the edges, of what loses mostly.
func drawn(bidders, items, seed int) (gains [][]int, order []int) {
	d := draw(seed*7919 + bidders*31 + items)
	gain := func() int { return d.below(2*most+1) - most }
	switch seed % 6 {
	case 1:
		gain = func() int { return d.below(3) - 1 }
	case 2:
		gain = func() int { return edges[d.below(len(edges))] }
	case 3:
		gain = func() int { return d.below(12) }
	case 4:
		gain = func() int { return most - d.below(3) }
	case 5:
		gain = func() int { return d.below(20) - 14 }
	}
	for range bidders {
		by := []int{}
		for range items {
			by = append(by, gain())
		}
		gains = append(gains, by)
	}
	for bidder := range bidders {
		order = slices.Insert(order, d.below(bidder+1), bidder)
	}
	return gains, order
}

// some calls f with a few gains and orders of each size.
func some(f func(gains [][]int, items int, order []int)) {
	for bidders := range 9 {
		for items := 1; items <= 8; items++ {
			for seed := range 12 {
				gains, order := drawn(bidders, items, seed)
				f(gains, items, order)
			}
		}
	}
}

// each calls f with all that is small, and with a few of each size.
func each(f func(gains [][]int, items int, order []int)) {
	small(f)
	some(f)
}

// The chapter's examples.
func TestExamples(t *testing.T) {
	is(t, [][]int{{5, 2}, {4, 0}}, 2, []int{0, 1}, []int{1, 0})
	is(t, [][]int{{5, 5}, {5, 5}}, 2, []int{1, 0}, []int{1, 0})
	is(t, [][]int{{0, 0}, {0, 0}}, 2, []int{0, 1}, []int{0, 1})
	is(t, [][]int{{-1}, {0}}, 1, []int{0, 1}, []int{none, 0})
	mayNotBe(t, [][]int{{0}, {0}}, 1, []int{0, 0})
}

// P11.1: First against each matching, one by one.
func TestAgainstAllMatchings(t *testing.T) {
	small(func(gains [][]int, items int, order []int) { is(t, gains, items, order, byTrial(gains, order)) })
	some(func(gains [][]int, items int, order []int) {
		if len(gains)+items <= 12 {
			is(t, gains, items, order, byTrial(gains, order))
		}
	})
	for seed := range 4 {
		gains, order := drawn(8, 8, 12+seed)
		is(t, gains, 8, order, byTrial(gains, order))
	}
}

// P11.1: First against the words, of each size.
func TestAgainstTheWords(t *testing.T) {
	each(func(gains [][]int, items int, order []int) { asTold(t, gains, items, order) })
	for seed := range 300 {
		gains, order := drawn(8, 8, seed)
		asTold(t, gains, 8, order)
	}
}

// P11.2: whatever comes out is a matching, of items that nobody loses by, and gains the most.
func TestIsOneOfTheBest(t *testing.T) {
	each(func(gains [][]int, items int, order []int) {
		has, e := firsts.First(gains, items, order)
		if e != api.OK || len(has) != len(gains) {
			t.Fatalf("First(%v, %d, %v) = %v, %d", gains, items, order, has, e)
		}
		gained, taken := 0, make([]bool, items)
		for bidder, item := range has {
			if item == none {
				continue
			}
			if item < 0 || item >= items || taken[item] || gains[bidder][item] < 0 {
				t.Fatalf("First(%v, %d, %v) = %v: not a matching", gains, items, order, has)
			}
			taken[item] = true
			gained += gains[bidder][item]
		}
		if best, _ := weights.Best(gains, items); gained != best {
			t.Errorf("First(%v, %d, %v) = %v gains %d, Best %d", gains, items, order, has, gained, best)
		}
	})
}

// P11.2: whoever has none loses by each item that is left.
func TestWhoHasNone(t *testing.T) {
	each(func(gains [][]int, items int, order []int) {
		has, _ := firsts.First(gains, items, order)
		for bidder, by := range gains {
			if len(has) != len(gains) || has[bidder] != none {
				continue
			}
			for item, gain := range by {
				if !slices.Contains(has, item) && gain >= 0 {
					t.Errorf("First(%v, %d, %v) = %v: %d would have %d", gains, items, order, has, bidder, item)
				}
			}
		}
	})
}

// otherwise is the same gains, order and items, by other numbers of the bidders: each one's new number stands in the list.
func otherwise(gains [][]int, order, has, as []int) (g [][]int, o, h []int) {
	g, o, h = make([][]int, len(as)), make([]int, len(as)), make([]int, len(as))
	for bidder, number := range as {
		g[number], h[number] = gains[bidder], has[bidder]
		o[slices.Index(order, bidder)] = number
	}
	return g, o, h
}

// P11.2: bidders named otherwise, with the order likewise, have the same.
func TestNamedOtherwise(t *testing.T) {
	some(func(gains [][]int, items int, order []int) {
		has, _ := firsts.First(gains, items, order)
		if len(has) != len(gains) {
			t.Fatalf("First(%v, %d, %v) = %v", gains, items, order, has)
		}
		names := func(as []int) {
			g, o, h := otherwise(gains, order, has, as)
			is(t, g, items, o, h)
		}
		if len(gains) <= 4 {
			orders(len(gains), names)
			return
		}
		names(downFrom(len(gains)))
		for seed := range 8 {
			_, as := drawn(len(gains), 1, seed+len(gains))
			names(as)
		}
	})
}

// P11.1, P11.2: each order of the same bidders, who gain as much by each: the items go round as they stand.
func TestEachOrder(t *testing.T) {
	for bidders := range 8 {
		alike := slices.Repeat([][]int{slices.Repeat([]int{7}, 8)}, bidders)
		gains, _ := drawn(bidders, 5, 3)
		few, _ := drawn(bidders, 3, 1)
		orders(bidders, func(order []int) {
			is(t, alike, 8, order, named(upTo(bidders), order))
			if bidders < 7 {
				asTold(t, gains, 5, order)
				asTold(t, few, 3, order)
			}
		})
	}
	orders(8, func(order []int) {
		is(t, slices.Repeat([][]int{make([]int, 8)}, 8), 8, order, named(upTo(8), order))
	})
}

// P11.1: nobody bids.
func TestNoBidders(t *testing.T) {
	for items := 1; items <= 8; items++ {
		for _, nobody := range [][][]int{nil, {}, make([][]int, 0, 9)} {
			for _, order := range [][]int{nil, {}, make([]int, 0, 9)} {
				is(t, nobody, items, order, nil)
			}
			mayNotBe(t, nobody, items, []int{0})
			mayNotBe(t, nobody, items, []int{-1})
		}
	}
}

// P11.1: one bidder has the least of its best items, or none, if it loses by each.
func TestOneBidder(t *testing.T) {
	one := func(by []int) {
		best := max(0, slices.Max(by))
		is(t, [][]int{by}, len(by), []int{0}, []int{slices.Index(by, best)}) // -1: none
	}
	for items := 1; items <= 8; items++ {
		for at := range items {
			for _, gain := range edges {
				for _, other := range edges {
					by := slices.Repeat([]int{other}, items)
					by[at] = gain
					one(by)
				}
			}
		}
		for seed := range 24 {
			gains, _ := drawn(1, items, seed)
			one(gains[0])
		}
	}
}

// P11.1: of one item, that one has it that gains the most, and stands first of those; nobody, if all lose.
func TestOneItem(t *testing.T) {
	for bidders := 1; bidders <= 8; bidders++ {
		for seed := range 24 {
			gains, order := drawn(bidders, 1, seed)
			want, best := slices.Repeat([]int{none}, bidders), -1
			for _, bidder := range slices.Backward(order) {
				if gain := gains[bidder][0]; gain >= max(best, 0) {
					want, best = slices.Repeat([]int{none}, bidders), gain
					want[bidder] = 0
				}
			}
			is(t, gains, 1, order, want)
		}
	}
	is(t, [][]int{{3}, {3}, {3}}, 1, []int{2, 0, 1}, []int{none, none, 0})
	is(t, [][]int{{3}, {3}, {4}}, 1, []int{1, 0, 2}, []int{none, none, 0})
	is(t, [][]int{{0}, {0}}, 1, []int{1, 0}, []int{none, 0})
	is(t, [][]int{{-1}, {-1}}, 1, []int{1, 0}, []int{none, none})
}

// P11.1: gains of the least, the most, and next to 0.
func TestGainsAtTheEdges(t *testing.T) {
	for bidders := range 4 {
		for items := 1; items <= 3; items++ {
			if bidders*items <= 6 {
				every(bidders, items, edges, func(gains [][]int, items int) {
					is(t, gains, items, upTo(bidders), byTrial(gains, upTo(bidders)))
					is(t, gains, items, downFrom(bidders), byTrial(gains, downFrom(bidders)))
				})
			}
		}
	}
	is(t, [][]int{{most, -most}, {-most, most}}, 2, []int{0, 1}, []int{0, 1})
	is(t, [][]int{{-most, most}, {most, -most}}, 2, []int{0, 1}, []int{1, 0})
	// A loss is no way to a greater gain, however great that one is.
	is(t, [][]int{{most, -1}, {most, -1}}, 2, []int{0, 1}, []int{0, none})
	is(t, [][]int{{most, -1}, {most, -1}}, 2, []int{1, 0}, []int{none, 0})
	is(t, [][]int{{-1, most}, {-1, most}}, 2, []int{0, 1}, []int{1, none})
	is(t, [][]int{{most, 0}, {most - 1, -1}}, 2, []int{1, 0}, []int{0, none})
	// One more or less at the most is told from as much.
	is(t, [][]int{{most, most}, {most, most - 1}}, 2, []int{0, 1}, []int{1, 0})
	is(t, [][]int{{most, most}, {most - 1, most}}, 2, []int{0, 1}, []int{0, 1})
}

// P11.1: an item at no gain is taken rather than none, and the least of these; one at a loss is not.
func TestNoGainIsTaken(t *testing.T) {
	is(t, [][]int{{0}}, 1, []int{0}, []int{0})
	is(t, [][]int{{-1, -1, 0, 0}}, 4, []int{0}, []int{2})
	is(t, [][]int{{0, 1}, {0, 0}}, 2, []int{1, 0}, []int{1, 0})
	is(t, [][]int{{0, 1}, {0, 0}}, 2, []int{0, 1}, []int{1, 0})
	is(t, [][]int{{0, -1}, {0, -1}}, 2, []int{1, 0}, []int{none, 0})
	is(t, [][]int{{0, 0}, {5, -1}}, 2, []int{0, 1}, []int{1, 0})
	is(t, [][]int{{0, -1}, {5, -1}}, 2, []int{0, 1}, []int{none, 0})
	// The first one takes the least item at no gain, and leaves the next one without any; as much is gained.
	is(t, [][]int{{0, 0}, {0, -1}}, 2, []int{0, 1}, []int{0, none})
	is(t, [][]int{{0, 0}, {0, -1}}, 2, []int{1, 0}, []int{1, 0})
	is(t, [][]int{{0, 0}, {1, -1}}, 2, []int{0, 1}, []int{1, 0})
	for bidders := range 9 {
		for items := 1; items <= 8; items++ {
			want := upTo(bidders)
			for bidder := items; bidder < bidders; bidder++ {
				want[bidder] = none
			}
			gains := slices.Repeat([][]int{make([]int, items)}, bidders)
			is(t, gains, items, upTo(bidders), want)
			is(t, gains, items, downFrom(bidders), named(want, downFrom(bidders)))
		}
	}
}

// P11.1: who loses by everything has none, and changes nothing for the others, wherever it stands.
func TestWhoLosesByEverything(t *testing.T) {
	some(func(gains [][]int, items int, order []int) {
		if len(gains) == 8 {
			return
		}
		has, _ := firsts.First(gains, items, order)
		last := len(gains)
		for place := range last + 1 {
			for _, loss := range []int{-1, -most} {
				more := append(clone(gains), slices.Repeat([]int{loss}, items))
				is(t, more, items, slices.Insert(slices.Clone(order), place, last), append(slices.Clone(has), none))
			}
		}
	})
	is(t, slices.Repeat([][]int{{-1, -most, -2, -1, -1, -1, -1, -1}}, 8), 8, downFrom(8), slices.Repeat([]int{none}, 8))
}

// P11.1: an item that all lose by changes nothing for the others but that those behind it have a greater number.
func TestItemAllLoseBy(t *testing.T) {
	some(func(gains [][]int, items int, order []int) {
		if items == 8 {
			return
		}
		has, _ := firsts.First(gains, items, order)
		for at := range items + 1 {
			for _, loss := range []int{-1, -most} {
				more, want := clone(gains), slices.Clone(has)
				for bidder := range more {
					more[bidder] = slices.Insert(more[bidder], at, loss)
					if want[bidder] >= at {
						want[bidder]++
					}
				}
				is(t, more, items+1, order, want)
			}
		}
	})
}

// P11.1: of several matchings that gain as much the bidder that stands first has the least item; then the second one, and so on.
func TestSeveralGainAsMuch(t *testing.T) {
	is(t, [][]int{{3, 3}, {3, 0}}, 2, []int{0, 1}, []int{1, 0})
	is(t, [][]int{{5, 5}, {5, 5}}, 2, []int{0, 1}, []int{0, 1})
	is(t, [][]int{{5, 4}, {5, 4}}, 2, []int{0, 1}, []int{0, 1})
	is(t, [][]int{{5, 4}, {5, 4}}, 2, []int{1, 0}, []int{1, 0})
	is(t, [][]int{{4, 5}, {4, 5}}, 2, []int{0, 1}, []int{0, 1}) // the first one has the least item, not the one that it gains the most by
	is(t, [][]int{{4, 5}, {4, 5}}, 2, []int{1, 0}, []int{1, 0})
	is(t, [][]int{{1, 2, 3}, {1, 2, 3}, {1, 2, 3}}, 3, []int{1, 2, 0}, []int{2, 0, 1})
	is(t, [][]int{{3, 3, -1}, {-1, 3, 3}, {3, -1, 3}}, 3, []int{0, 1, 2}, []int{0, 1, 2})
	is(t, [][]int{{3, 3, -1}, {-1, 3, 3}, {3, -1, 3}}, 3, []int{2, 1, 0}, []int{1, 2, 0})
	is(t, [][]int{{3, 3, -1}, {-1, 3, 3}, {3, -1, 3}}, 3, []int{1, 0, 2}, []int{0, 1, 2})
	// Who stands first has an item rather than none, though another one gains as much by it.
	is(t, [][]int{{9, 9}, {9, 9}, {9, 9}}, 2, []int{2, 0, 1}, []int{1, none, 0})
	is(t, [][]int{{9, 2}, {9, 2}, {2, 2}}, 2, []int{2, 1, 0}, []int{none, 0, 1})
	// What the second one has is told by the order, not by the numbers.
	is(t, [][]int{{1, 1, 1}, {1, 1, 1}, {1, 1, 1}}, 3, []int{2, 0, 1}, []int{1, 2, 0})
	is(t, [][]int{{1, 1, 1}, {1, 1, 1}, {1, 1, 1}}, 3, []int{0, 2, 1}, []int{0, 2, 1})
}

// P11.1: more bidders than items, who all gain as much: those behind have none.
func TestMoreBiddersThanItems(t *testing.T) {
	for bidders := range 9 {
		for items := 1; items < bidders; items++ {
			want := append(upTo(items), slices.Repeat([]int{none}, bidders-items)...)
			for _, gain := range []int{0, 1, 7, most} {
				gains := slices.Repeat([][]int{slices.Repeat([]int{gain}, items)}, bidders)
				for seed := range 6 {
					_, order := drawn(bidders, items, seed)
					is(t, gains, items, order, named(want, order))
				}
			}
			// One who gains more by one item has that, however far behind it stands.
			gains := slices.Repeat([][]int{slices.Repeat([]int{4}, items)}, bidders)
			gains[0] = slices.Repeat([]int{5}, items)
			late := slices.Insert(slices.Repeat([]int{none}, bidders-items), 0, upTo(items-1)...)
			late = append(late, items-1)
			order := downFrom(bidders)
			is(t, gains, items, order, named(late, order))
		}
	}
	is(t, [][]int{{5}, {6}, {6}}, 1, []int{0, 1, 2}, []int{none, 0, none})
	is(t, [][]int{{5}, {6}, {6}}, 1, []int{0, 2, 1}, []int{none, none, 0})
}

// P11.1: the best is had only if each gives up its own best for the item behind that, as one more gains by the first item alone.
func TestGivesUpItsOwnBest(t *testing.T) {
	is(t, [][]int{{10, 9}, {10, 0}}, 2, []int{0, 1}, []int{1, 0})
	for many := 2; many <= 8; many++ {
		gains, want := [][]int{}, []int{}
		for bidder := range many {
			by := slices.Repeat([]int{-1}, many)
			by[bidder] = 10
			if bidder+1 < many {
				by[bidder+1] = 9
				want = append(want, bidder+1)
			} else {
				by[bidder], by[0] = -1, 10
				want = append(want, 0)
			}
			gains = append(gains, by)
		}
		is(t, gains, many, upTo(many), want)
		is(t, gains, many, downFrom(many), want)
	}
}

// P11.1: as many bidders and items as there may be, and one more of each.
func TestTheMostThereMayBe(t *testing.T) {
	for _, gain := range edges {
		gains := slices.Repeat([][]int{slices.Repeat([]int{gain}, 8)}, 8)
		asTold(t, gains, 8, upTo(8))
		asTold(t, gains, 8, downFrom(8))
		mayNotBe(t, append(gains, gains[0]), 8, upTo(9))
		mayNotBe(t, append(gains, gains[0]), 8, upTo(8))
		mayNotBe(t, slices.Repeat([][]int{slices.Repeat([]int{gain}, 9)}, 8), 9, upTo(8))
	}
}

// P11.1: an order that lacks a bidder, has one twice, or one that is none, at each place.
func TestOrdersThatMayNotBe(t *testing.T) {
	for bidders := 1; bidders <= 8; bidders++ {
		gains, order := drawn(bidders, 3, bidders)
		gains = slices.Repeat([][]int{{1, 0, -1}}, len(gains))
		is(t, gains, 3, order, told(gains, 3, order))
		for place := range bidders {
			for _, bad := range slices.Concat([]int{-1, -2, -3, -8, -9, bidders, bidders + 1, 8, 9, 10, 64, 255, 256, 257}, far) {
				if bad >= 0 && bad < bidders {
					continue
				}
				wrong := slices.Clone(order)
				wrong[place] = bad
				mayNotBe(t, gains, 3, wrong)
			}
			for other := range bidders {
				if other != place { // the bidder there twice, and another one not at all
					wrong := slices.Clone(order)
					wrong[place] = order[other]
					mayNotBe(t, gains, 3, wrong)
				}
			}
		}
		mayNotBe(t, gains, 3, slices.Repeat([]int{0}, bidders+1))
	}
	mayNotBe(t, [][]int{{1}, {1}}, 1, []int{0, 0})
	mayNotBe(t, [][]int{{1}, {1}}, 1, []int{1, 1})
	mayNotBe(t, [][]int{{1}, {1}, {1}}, 1, []int{1, 1, 1}) // sums of what is in it are no proof
	mayNotBe(t, [][]int{{1}, {1}, {1}, {1}}, 1, []int{0, 3, 3, 0})
	mayNotBe(t, [][]int{{1}, {1}, {1}, {1}}, 1, []int{1, 1, 2, 2})
}

// P11.1: an order that is too short, or too long, whatever stands in it.
func TestOrdersOfOtherLengths(t *testing.T) {
	for bidders := range 9 {
		gains := slices.Repeat([][]int{{2, 2}}, bidders)
		for many := range 20 {
			if many == bidders {
				continue
			}
			mayNotBe(t, gains, 2, upTo(many))
			mayNotBe(t, gains, 2, downFrom(many))
			mayNotBe(t, gains, 2, make([]int, many))
			mayNotBe(t, gains, 2, slices.Repeat([]int{-1}, many))
			if many > bidders { // each bidder once, and more behind, or ahead
				more := slices.Repeat([]int{0}, many-bidders)
				mayNotBe(t, gains, 2, slices.Concat(upTo(bidders), more))
				mayNotBe(t, gains, 2, slices.Concat(more, upTo(bidders)))
				mayNotBe(t, gains, 2, slices.Concat(upTo(bidders), slices.Repeat([]int{none}, many-bidders)))
			}
		}
		if bidders > 0 {
			mayNotBe(t, gains, 2, nil)
			mayNotBe(t, gains, 2, []int{})
		}
	}
}

// P11.1: items below 1 or beyond the most, whatever the lists are.
func TestItemsThatMayNotBe(t *testing.T) {
	for _, items := range append([]int{0, -1, -2, -8, 9, 10, 16, 64, 255, 256, 257}, far...) {
		mayNotBe(t, nil, items, nil)
		mayNotBe(t, [][]int{nil}, items, []int{0})
		mayNotBe(t, make([][]int, 8), items, upTo(8))
		mayNotBe(t, [][]int{{1}}, items, []int{0})
		if items >= 0 && items < 300 {
			for bidders := 1; bidders <= 9; bidders++ {
				mayNotBe(t, slices.Repeat([][]int{make([]int, items)}, bidders), items, upTo(bidders))
			}
		}
	}
}

// P11.1: more lists than there may be bidders.
func TestTooManyLists(t *testing.T) {
	for _, bidders := range []int{9, 10, 16, 17, 64, 65, 255, 256, 257, 300} {
		for items := 1; items <= 8; items++ {
			mayNotBe(t, make([][]int, bidders), items, upTo(bidders))
			for _, gain := range []int{-1, 0, 1} {
				gains := slices.Repeat([][]int{slices.Repeat([]int{gain}, items)}, bidders)
				mayNotBe(t, gains, items, upTo(bidders))
				mayNotBe(t, gains, items, upTo(8))
			}
		}
	}
}

// mayNotStand fails unless no list of so many bidders may be that one, whoever's it is.
func mayNotStand(t *testing.T, bad []int, bidders, items int) {
	t.Helper()
	for bidder := range bidders {
		gains := slices.Repeat([][]int{make([]int, items)}, bidders)
		gains[bidder] = bad
		mayNotBe(t, gains, items, upTo(bidders))
	}
}

// P11.1: lists that are too short, or too long, at each place.
func TestListsOfOtherLengths(t *testing.T) {
	for items := 1; items <= 8; items++ {
		for many := range 20 {
			if many == items {
				continue
			}
			for bidders := 1; bidders <= 8; bidders++ {
				mayNotStand(t, make([]int, many), bidders, items)
				mayNotStand(t, slices.Repeat([]int{-1}, many), bidders, items)
			}
		}
		mayNotStand(t, nil, 8, items)
	}
}

// P11.1: numbers beyond the most either way, at each place; the most itself may be.
func TestNumbersThatMayNotBe(t *testing.T) {
	for items := 1; items <= 8; items++ {
		for bidders := 1; bidders <= 8; bidders++ {
			for item := range items {
				for _, n := range far {
					bad := make([]int, items)
					bad[item] = n
					mayNotStand(t, bad, bidders, items)
				}
				for _, n := range edges {
					gains := slices.Repeat([][]int{slices.Repeat([]int{-1}, items)}, bidders)
					gains[bidders-1] = slices.Repeat([]int{-1}, items)
					gains[bidders-1][item] = n
					want := slices.Repeat([]int{none}, bidders)
					if n >= 0 {
						want[bidders-1] = item
					}
					is(t, gains, items, upTo(bidders), want)
				}
			}
		}
	}
	mayNotBe(t, [][]int{{most + 1, -most - 1}}, 2, []int{0})
	mayNotBe(t, [][]int{{most + 1}, {-most - 1}}, 1, []int{0, 1})
}

// R2: gains and an order that both may not be.
func TestAllWrong(t *testing.T) {
	mayNotBe(t, [][]int{{1}}, 2, []int{1})
	mayNotBe(t, [][]int{{1}}, 0, nil)
	mayNotBe(t, nil, 0, []int{0})
	mayNotBe(t, [][]int{{most + 1}, {1}}, 1, []int{0, 0})
	mayNotBe(t, make([][]int, 9), 9, make([]int, 10))
}

// roomy is a list with numbers in its spare room.
func roomy(l []int) []int {
	return append(slices.Clone(l), 91, 92, 93)[:len(l)]
}

// roomyLists are lists with more lists in their spare room, and numbers in that of each.
func roomyLists(g [][]int) [][]int {
	h := [][]int{}
	for _, l := range g {
		h = append(h, roomy(l))
	}
	return append(h, []int{77}, []int{78})[:len(g)]
}

// wholeLists are all of these lists, spare room too, as they stand now.
func wholeLists(g [][]int) [][]int {
	h := [][]int{}
	for _, l := range g[:cap(g)] {
		h = append(h, slices.Clone(l[:cap(l)]))
	}
	return h
}

// R4: no call changes what it is handed, spare room neither.
func TestNothingIsChanged(t *testing.T) {
	some(func(one [][]int, items int, order []int) {
		gains, stand := roomyLists(one), roomy(order)
		before, stood := wholeLists(gains), slices.Clone(stand[:cap(stand)])
		for _, n := range []int{items, 0, items + 1, 9} {
			firsts.First(gains, n, stand)
			firsts.First(gains, n, stand[:max(0, len(stand)-1)])
			firsts.First(gains, n, stand[:len(stand)+1])
		}
		if after := wholeLists(gains); !same(after, before) || !slices.Equal(stand[:cap(stand)], stood) {
			t.Errorf("%v, %v was %v, %v", after, stand[:cap(stand)], before, stood)
		}
	})
}

// R4: spare room is not part of what is handed in; an empty list is as none.
func TestSpareRoomIsNotRead(t *testing.T) {
	gains := [][]int{[]int{5, 2, 9}[:2], []int{4, 0, most + 1}[:2], {9, 9}, nil}[:2]
	is(t, gains, 2, []int{0, 1, 1, 7}[:2], []int{1, 0})
	is(t, [][]int{{9}, {9}}[:0], 1, []int{0, 1}[:0], nil)
	mayNotBe(t, gains, 2, []int{0, 1}[:1])
	mayNotBe(t, gains, 2, []int{0, 1}[:0])
	mayNotBe(t, [][]int{[]int{5, 2}[:1]}, 2, []int{0})
	mayNotBe(t, [][]int{make([]int, 0, 8)}, 8, []int{0})
}

// spoil writes n over all of l, spare room too.
func spoil(l []int, n int) {
	l = l[:cap(l)]
	for i := range l {
		l[i] = n
	}
}

// R4, R5: an answer shares no memory with what was handed in, nor with another answer; nothing that was handed in, or answered before, is kept.
func TestAnswersShareNoMemory(t *testing.T) {
	some(func(gains [][]int, items int, order []int) {
		want := told(gains, items, order)
		handed, stand := clone(gains), slices.Clone(order)
		a, _ := firsts.First(handed, items, stand)
		b, _ := firsts.First(handed, items, stand)
		spoil(a, 99)
		if !same(handed, gains) || !slices.Equal(stand, order) {
			t.Errorf("of %v, %d, %v: an answer shares memory with what was handed in", gains, items, order)
		}
		spoil(stand, 96)
		for _, l := range handed {
			spoil(l, 97)
		}
		if !slices.Equal(b, want) {
			t.Errorf("of %v, %d, %v: two answers share memory, or what was handed in is kept", gains, items, order)
		}
		is(t, gains, items, order, want)
	})
}

// R4: the same list handed in several times is as several.
func TestOneListForMany(t *testing.T) {
	by := []int{1, 0, 2}
	is(t, [][]int{by, by, by}, 3, by, []int{1, 0, 2})
	if !slices.Equal(by, []int{1, 0, 2}) {
		t.Error(by)
	}
}

// R5: what was asked before, well or wrong, is nothing to what is asked now.
func TestNothingIsKept(t *testing.T) {
	some(func(gains [][]int, items int, order []int) {
		has, _ := firsts.First(gains, items, order)
		full := slices.Repeat([][]int{slices.Repeat([]int{most}, 8)}, 8)
		firsts.First(full, 8, upTo(8))
		firsts.First(full, 8, downFrom(8))
		firsts.First(full, 7, upTo(8))
		firsts.First(full, 8, upTo(7))
		is(t, gains, items, order, has)
	})
}

// R1: long lists, which may not be.
func TestLongLists(t *testing.T) {
	mayNotBe(t, [][]int{make([]int, 100000)}, 8, []int{0})
	mayNotBe(t, [][]int{{1}, make([]int, 100000)}, 1, []int{0, 1})
	mayNotBe(t, [][]int{make([]int, 100000)}, 100000, []int{0})
	mayNotBe(t, make([][]int, 100000), 8, upTo(100000))
	mayNotBe(t, make([][]int, 100000), 100000, upTo(100000))
	mayNotBe(t, [][]int{{1}}, 1, make([]int, 100000))
	mayNotBe(t, nil, 1, upTo(100000))
}

// numbersOf is a number of each byte: small ones, and such as stand about the most either way.
func numbersOf(b []byte) []int {
	l := []int{}
	for _, n := range b {
		switch {
		case n >= 100 && n < 128:
			l = append(l, most+int(n)-126)
		case n > 128 && n < 156:
			l = append(l, -most-int(n)+130)
		default:
			l = append(l, int(int8(n)))
		}
	}
	return l
}

// splitAt is what stands between these bytes.
func splitAt(b []byte, at byte) [][]byte {
	parts := [][]byte{{}}
	for _, n := range b {
		if n == at {
			parts = append(parts, []byte{})
		} else {
			last := len(parts) - 1
			parts[last] = append(parts[last], n)
		}
	}
	return parts
}

// R1, R2, P11.1: any lists; the byte 128 parts them. An order of each size goes with them, too.
func FuzzAll(f *testing.F) {
	f.Add(2, []byte{5, 2, 128, 4, 0}, []byte{0, 1})
	f.Add(1, []byte{255}, []byte{0})
	f.Add(1, []byte{126, 128, 126, 128, 0}, []byte{2, 0, 1})
	f.Add(1, []byte{127}, []byte{0})
	f.Add(2, []byte{130, 126, 128, 126, 130}, []byte{1, 1})
	f.Add(2, []byte{131, 126}, []byte{0, 0})
	f.Add(8, []byte{0, 1, 2, 3, 4, 5, 6, 7}, []byte{255})
	f.Add(0, []byte{}, []byte{})
	f.Add(9, []byte{0, 1, 2, 3, 4, 5, 6, 7, 8}, []byte{8})
	f.Fuzz(func(t *testing.T, items int, all, stand []byte) {
		gains := [][]int{}
		for _, one := range splitAt(all, 128) {
			gains = append(gains, numbersOf(one))
		}
		check(t, gains, items, numbersOf(stand))
		if len(stand) > 0 && len(gains) < 10 {
			_, order := drawn(len(gains), 1, int(stand[0]))
			check(t, gains, items, order)
		}
	})
}
