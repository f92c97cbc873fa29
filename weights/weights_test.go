package weights_test

import (
	"math"
	"slices"
	"testing"

	"salesroom/api"
	"salesroom/weights"
)

// most is a number that is a limit of what may be gained, or lost.
const most = api.MaxPrice

// far are numbers far off all that may be: of items, of gains.
var far = []int{most + 1, most + 2, 2 * most, 1 << 31, 1 << 32, 1<<32 + 1, math.MaxInt - 1, math.MaxInt, -most - 1, -most - 2, -2 * most, -1 << 31, -1 << 32, math.MinInt + 1, math.MinInt}

// edges are the numbers at which what may be gained changes.
var edges = []int{-most, -1, 0, 1, most}

// upTo is 0, 1 .., so many.
func upTo(n int) []int {
	var l []int
	for i := range n {
		l = append(l, i)
	}
	return l
}

// sum is all of a list together.
func sum(l []int) int {
	n := 0
	for _, one := range l {
		n += one
	}
	return n
}

// mayBe is whether gains may be, told by the words alone.
func mayBe(gains [][]int, items int) bool {
	if items < 1 || items > 8 || len(gains) > 8 {
		return false
	}
	for _, by := range gains {
		if len(by) != items || slices.Min(by) < -1000000 || slices.Max(by) > 1000000 {
			return false
		}
	}
	return true
}

// tried is the most of all matchings, each of which is gone through; an item stands in the list as often as there is of it.
func tried(gains [][]int, items []int, taken int) int {
	if len(gains) == 0 {
		return 0
	}
	best := tried(gains[1:], items, taken)
	for place, item := range items {
		if gain := gains[0][item]; gain >= 0 && taken>>place&1 == 0 {
			best = max(best, gain+tried(gains[1:], items, taken|1<<place))
		}
	}
	return best
}

// gained is what tried is, but what the bidders behind can have of the items that are left is worked out once.
func gained(gains [][]int, items []int) int {
	sets := 1 << len(items)
	known := make([]int, (len(gains)+1)*sets) // one more than it is; 0: not yet
	var from func(bidder, taken int) int
	from = func(bidder, taken int) int {
		if bidder == len(gains) {
			return 0
		}
		at := &known[bidder*sets+taken]
		if *at > 0 {
			return *at - 1
		}
		best := from(bidder+1, taken)
		for place, item := range items {
			if gain := gains[bidder][item]; gain >= 0 && taken>>place&1 == 0 {
				best = max(best, gain+from(bidder+1, taken|1<<place))
			}
		}
		*at = best + 1
		return best
	}
	return from(0, 0)
}

// ofItems is each item's number, told by the words alone.
func ofItems(gains [][]int, items int) []int {
	l := []int{}
	for item := range items {
		l = append(l, gained(gains, append(upTo(items), item))-gained(gains, upTo(items)))
	}
	return l
}

// ofBidders is each bidder's number at these of items, told by the words alone.
func ofBidders(gains [][]int, of []int) []int {
	l := []int{}
	for _, by := range gains {
		n := 0
		for item, gain := range by {
			if gain-of[item] > n {
				n = gain - of[item]
			}
		}
		l = append(l, n)
	}
	return l
}

// same is whether two lists of lists are; an empty list and none are the same.
func same(a, b [][]int) bool {
	return slices.EqualFunc(a, b, slices.Equal[[]int])
}

func clone(g [][]int) [][]int {
	h := [][]int{}
	for _, l := range g {
		h = append(h, slices.Clone(l))
	}
	return h
}

// bestIs fails unless Best is that.
func bestIs(t *testing.T, gains [][]int, items, want int) {
	t.Helper()
	if n, e := weights.Best(gains, items); e != api.OK || n != want {
		t.Errorf("Best(%v, %d) = %d, %d, want %d", gains, items, n, e, want)
	}
}

// provedIs fails unless Proved are these.
func provedIs(t *testing.T, gains [][]int, items int, bidders, of []int) {
	t.Helper()
	if u, p, e := weights.Proved(gains, items); e != api.OK || !slices.Equal(u, bidders) || !slices.Equal(p, of) {
		t.Errorf("Proved(%v, %d) = %v, %v, %d, want %v, %v", gains, items, u, p, e, bidders, of)
	}
}

// are fails unless Best and Proved are these.
func are(t *testing.T, gains [][]int, items, best int, bidders, of []int) {
	t.Helper()
	bestIs(t, gains, items, best)
	provedIs(t, gains, items, bidders, of)
}

// asTold fails unless both calls answer what the words tell.
func asTold(t *testing.T, gains [][]int, items int) {
	t.Helper()
	of := ofItems(gains, items)
	are(t, gains, items, gained(gains, upTo(items)), ofBidders(gains, of), of)
}

// mayNotBe fails unless both calls tell that these may not be, and nothing else.
func mayNotBe(t *testing.T, gains [][]int, items int) {
	t.Helper()
	if n, e := weights.Best(gains, items); e != api.ErrArg || n != 0 {
		t.Errorf("Best(%v, %d) = %d, %d, want ErrArg", gains, items, n, e)
	}
	if u, p, e := weights.Proved(gains, items); e != api.ErrArg || len(u) != 0 || len(p) != 0 {
		t.Errorf("Proved(%v, %d) = %v, %v, %d, want ErrArg", gains, items, u, p, e)
	}
}

// check holds both calls against the words, whatever comes in.
func check(t *testing.T, gains [][]int, items int) {
	t.Helper()
	if mayBe(gains, items) {
		asTold(t, gains, items)
	} else {
		mayNotBe(t, gains, items)
	}
}

// every calls f with all gains of so many bidders and items that have these numbers alone.
func every(bidders, items int, numbers []int, f func(gains [][]int, items int)) {
	many := 1
	for range bidders * items {
		many *= len(numbers)
	}
	for which := range many {
		gains := [][]int{}
		for range bidders {
			by := []int{}
			for range items {
				by = append(by, numbers[which%len(numbers)])
				which /= len(numbers)
			}
			gains = append(gains, by)
		}
		f(gains, items)
	}
}

// small calls f with all gains of few bidders and items, by few numbers.
func small(f func(gains [][]int, items int)) {
	for bidders := range 4 {
		for items := 1; items <= 3; items++ {
			numbers := []int{-1, 0, 1, 3}
			if bidders*items > 6 {
				numbers = []int{-1, 1, 2}
			}
			every(bidders, items, numbers, f)
		}
	}
}

// draw is numbers that hang on the seed alone.
type draw int

func (d *draw) below(n int) int {
	*d = (*d*1103515245 + 12345) & math.MaxInt32
	return int(*d>>8) % n
}

// drawn is gains of each kind: of few numbers, of many, of those at the edges, of what loses mostly.
func drawn(bidders, items, seed int) [][]int {
	d := draw(seed*7919 + bidders*31 + items)
	gain := func() int { return d.below(2*most+1) - most }
	switch seed % 6 {
	case 1:
		gain = func() int { return d.below(4) - 1 }
	case 2:
		gain = func() int { return edges[d.below(len(edges))] }
	case 3:
		gain = func() int { return d.below(12) }
	case 4:
		gain = func() int { return most - d.below(9) }
	case 5:
		gain = func() int { return d.below(20) - 14 }
	}
	gains := [][]int{}
	for range bidders {
		by := []int{}
		for range items {
			by = append(by, gain())
		}
		gains = append(gains, by)
	}
	return gains
}

// some calls f with a few gains of each size.
func some(f func(gains [][]int, items int)) {
	for bidders := range 9 {
		for items := 1; items <= 8; items++ {
			for seed := range 12 {
				f(drawn(bidders, items, seed), items)
			}
		}
	}
}

// each calls f with all that is small, and with a few of each size.
func each(f func(gains [][]int, items int)) {
	small(f)
	some(f)
}

// The chapter's examples.
func TestExamples(t *testing.T) {
	are(t, [][]int{{5, 2}, {4, 0}}, 2, 6, []int{2, 1}, []int{3, 0})
	are(t, [][]int{{-1}}, 1, 0, []int{0}, []int{0})
	are(t, nil, 1, 0, nil, []int{0})
	mayNotBe(t, nil, 0)
}

// P10.1: Best against each matching, one by one.
func TestBestAgainstAllMatchings(t *testing.T) {
	small(func(gains [][]int, items int) { bestIs(t, gains, items, tried(gains, upTo(items), 0)) })
	some(func(gains [][]int, items int) {
		if len(gains)+items <= 13 {
			bestIs(t, gains, items, tried(gains, upTo(items), 0))
		}
	})
	for seed := range 4 {
		gains := drawn(8, 8, 12+seed)
		bestIs(t, gains, 8, tried(gains, upTo(8), 0))
	}
}

// P10.2: each item's number against each matching, one by one, with one more of just that item.
func TestItemsAgainstOneMore(t *testing.T) {
	one := func(gains [][]int, items int) {
		_, of, _ := weights.Proved(gains, items)
		without := tried(gains, upTo(items), 0)
		for item := range items {
			with := tried(gains, append(upTo(items), item), 0)
			if len(of) != items || of[item] != with-without {
				t.Fatalf("Proved(%v, %d) = .., %v, want %d of %d", gains, items, of, with-without, item)
			}
		}
	}
	small(one)
	some(func(gains [][]int, items int) {
		if len(gains)+items <= 11 {
			one(gains, items)
		}
	})
	one(drawn(8, 7, 1), 7)
	one(drawn(8, 8, 0), 8)
}

// P10.1, P10.2: both against the words, of all that is small and of each size.
func TestAgainstTheWords(t *testing.T) {
	each(func(gains [][]int, items int) { asTold(t, gains, items) })
}

// P10.2: each bidder's number against the items' ones that were told with it.
func TestBiddersAgainstItems(t *testing.T) {
	each(func(gains [][]int, items int) {
		u, p, e := weights.Proved(gains, items)
		if e != api.OK || len(p) != items || !slices.Equal(u, ofBidders(gains, p)) {
			t.Errorf("Proved(%v, %d) = %v, %v, %d", gains, items, u, p, e)
		}
	})
}

// P10.3: all are 0 at least, cover all that is gained, and are Best together.
func TestProvedProve(t *testing.T) {
	each(func(gains [][]int, items int) {
		best, _ := weights.Best(gains, items)
		u, p, _ := weights.Proved(gains, items)
		if len(u) != len(gains) || len(p) != items || sum(u)+sum(p) != best {
			t.Fatalf("Best(%v, %d) = %d, Proved of it: %v, %v", gains, items, best, u, p)
		}
		for _, n := range slices.Concat(u, p) {
			if n < 0 {
				t.Errorf("Proved(%v, %d) = %v, %v", gains, items, u, p)
			}
		}
		for bidder, by := range gains {
			for item, gain := range by {
				if u[bidder]+p[item] < gain {
					t.Errorf("Proved(%v, %d) = %v, %v: %d gains %d by %d", gains, items, u, p, bidder, gain, item)
				}
			}
		}
	})
}

// together is all numbers together: these of items, and the least of bidders that go with them.
func together(gains [][]int, of []int) int {
	return sum(of) + sum(ofBidders(gains, of))
}

// doubled is all of these twice: so numbers of items are told by halves.
func doubled(gains [][]int) [][]int {
	h := clone(gains)
	for _, by := range h {
		for item := range by {
			by[item] *= 2
		}
	}
	return h
}

// P10.3: of all numbers, halves too, that are as much together, none are lower for any item; and none are less together.
func TestNoNumbersAreLower(t *testing.T) {
	numbers := [][][]int{}
	for items := range 4 {
		numbers = append(numbers, [][]int{})
		every(1, items, upTo(8), func(of [][]int, _ int) { numbers[items] = append(numbers[items], of[0]) })
	}
	small(func(gains [][]int, items int) {
		best, _ := weights.Best(gains, items)
		_, p, _ := weights.Proved(gains, items)
		twice := doubled(gains)
		for _, of := range numbers[items] {
			all := together(twice, of)
			if all < 2*best {
				t.Fatalf("Best(%v, %d) = %d: halves of %v prove less", gains, items, best, of)
			}
			for item, n := range of {
				if all == 2*best && n < 2*p[item] {
					t.Fatalf("Proved(%v, %d) = .., %v: halves of %v are lower", gains, items, p, of)
				}
			}
		}
	})
}

// P10.3: of each size: no set of items has numbers that are less by one, or by a half, and prove as much.
func TestNoSetOfNumbersIsLower(t *testing.T) {
	some(func(gains [][]int, items int) {
		best, _ := weights.Best(gains, items)
		_, p, _ := weights.Proved(gains, items)
		twice := doubled(gains)
		for mask := 1; mask < 1<<items; mask++ {
			for less := 1; less <= 2; less++ {
				of := []int{}
				for item, n := range p {
					of = append(of, 2*n-less*(mask>>item&1))
				}
				if slices.Min(of) >= 0 && together(twice, of) <= 2*best {
					t.Fatalf("Proved(%v, %d) = .., %v: halves of %v prove it too", gains, items, p, of)
				}
			}
		}
	})
}

// P10.1, P10.2: nobody bids.
func TestNoBidders(t *testing.T) {
	for items := 1; items <= 8; items++ {
		for _, none := range [][][]int{nil, {}, make([][]int, 0, 9)} {
			are(t, none, items, 0, nil, make([]int, items))
		}
	}
}

// P10.1, P10.2: one bidder has the best item, and all items' numbers are 0: nobody else would have one more.
func TestOneBidder(t *testing.T) {
	for items := 1; items <= 8; items++ {
		for at := range items {
			for _, gain := range edges {
				by := slices.Repeat([]int{-most}, items)
				by[at] = gain
				are(t, [][]int{by}, items, max(gain, 0), []int{max(gain, 0)}, make([]int, items))
			}
		}
		for seed := range 24 {
			by := drawn(1, items, seed)[0]
			best := max(0, slices.Max(by))
			are(t, [][]int{by}, items, best, []int{best}, make([]int, items))
		}
	}
}

// P10.1, P10.2: of one item, who gains the most has it; its number is what the next one gains.
func TestOneItem(t *testing.T) {
	for bidders := 1; bidders <= 8; bidders++ {
		for seed := range 24 {
			gains := drawn(bidders, 1, seed)
			sorted := []int{0, 0}
			for _, by := range gains {
				sorted = append(sorted, by[0])
			}
			slices.Sort(sorted)
			slices.Reverse(sorted)
			u := []int{}
			for _, by := range gains {
				u = append(u, max(0, by[0]-max(0, sorted[1])))
			}
			are(t, gains, 1, sorted[0], u, []int{sorted[1]})
		}
	}
	are(t, [][]int{{5}, {4}, {3}}, 1, 5, []int{1, 0, 0}, []int{4})
	are(t, [][]int{{5}, {5}}, 1, 5, []int{0, 0}, []int{5})
	are(t, [][]int{{5}, {-1}}, 1, 5, []int{5, 0}, []int{0})
}

// P10.1, P10.2: all gain the same by all: as many have one as can; the items' numbers are 0, or all of it if bidders are left.
func TestAllTheSame(t *testing.T) {
	for _, gain := range append([]int{-2, 7, most - 1, -most + 1}, edges...) {
		for bidders := range 9 {
			for items := 1; items <= 8; items++ {
				gains := slices.Repeat([][]int{slices.Repeat([]int{gain}, items)}, bidders)
				n, u, p := max(gain, 0), max(gain, 0), 0
				if bidders > items {
					u, p = p, u
				}
				are(t, gains, items, n*min(bidders, items), slices.Repeat([]int{u}, bidders), slices.Repeat([]int{p}, items))
			}
		}
	}
}

// P10.1, P10.2: gains of the least, the most, and next to 0.
func TestGainsAtTheEdges(t *testing.T) {
	for bidders := range 4 {
		for items := 1; items <= 3; items++ {
			if bidders*items <= 6 {
				every(bidders, items, edges, func(gains [][]int, items int) { asTold(t, gains, items) })
			}
		}
	}
	are(t, [][]int{{0}}, 1, 0, []int{0}, []int{0})
	are(t, [][]int{{1}}, 1, 1, []int{1}, []int{0})
	are(t, [][]int{{most}, {most}}, 1, most, []int{0, 0}, []int{most})
	are(t, [][]int{{most, -most}, {-most, most}}, 2, 2*most, []int{most, most}, []int{0, 0})
	are(t, [][]int{{-most, -most}, {-most, -most}}, 2, 0, []int{0, 0}, []int{0, 0})
	// A loss is no way to a greater gain, however great that one is.
	are(t, [][]int{{most, -1}, {most, -1}}, 2, most, []int{0, 0}, []int{most, 0})
	are(t, [][]int{{most, 0}, {most - 1, -1}}, 2, most, []int{1, 0}, []int{most - 1, 0})
	are(t, [][]int{{most, most - 1}, {most, -most}}, 2, 2*most-1, []int{most - 1, most - 1}, []int{1, 0})
}

// P10.1, P10.2: who loses by everything changes nothing for the others, and has 0.
func TestWhoLosesByEverything(t *testing.T) {
	some(func(gains [][]int, items int) {
		if len(gains) == 8 {
			return
		}
		best, _ := weights.Best(gains, items)
		u, p, _ := weights.Proved(gains, items)
		for at := range len(gains) + 1 {
			for _, loss := range []int{-1, -most} {
				more := slices.Insert(clone(gains), at, slices.Repeat([]int{loss}, items))
				are(t, more, items, best, slices.Insert(slices.Clone(u), at, 0), p)
			}
		}
	})
	are(t, slices.Repeat([][]int{{-1, -most, -2, -1, -1, -1, -1, -1}}, 8), 8, 0, make([]int, 8), make([]int, 8))
}

// P10.1, P10.2: an item by which nobody gains anything changes nothing for the others, and has 0.
func TestItemNobodyGainsBy(t *testing.T) {
	some(func(gains [][]int, items int) {
		if items == 8 {
			return
		}
		best, _ := weights.Best(gains, items)
		u, p, _ := weights.Proved(gains, items)
		for at := range items + 1 {
			for _, gain := range []int{0, -1, -most} {
				more := clone(gains)
				for bidder := range more {
					more[bidder] = slices.Insert(more[bidder], at, gain)
				}
				are(t, more, items+1, best, u, slices.Insert(slices.Clone(p), at, 0))
			}
		}
	})
}

// P10.1, P10.2: each bidder gains the same by all items, each another amount: those who gain the most have one, and each item's number is what the first one gains who has none.
func TestMoreBiddersAndMoreItems(t *testing.T) {
	amounts := []int{30, 80, 10, 60, 50, 20, 70, 40}
	for bidders := range 9 {
		sorted := slices.Sorted(slices.Values(amounts[:bidders]))
		slices.Reverse(sorted)
		for items := 1; items <= 8; items++ {
			next, best := 0, sum(sorted)
			if bidders > items {
				next, best = sorted[items], sum(sorted[:items])
			}
			gains, u := [][]int{}, []int{}
			for _, amount := range amounts[:bidders] {
				gains = append(gains, slices.Repeat([]int{amount}, items))
				u = append(u, max(0, amount-next))
			}
			are(t, gains, items, best, u, slices.Repeat([]int{next}, items))
		}
	}
	are(t, [][]int{{5, 5}, {5, 5}, {5, 5}}, 2, 10, []int{0, 0, 0}, []int{5, 5})
	are(t, [][]int{{5, 9, 7}}, 3, 9, []int{9}, []int{0, 0, 0})
}

// P10.1, P10.2: the best is had only if each gives up its own best for the item behind that, as one more gains by the first item alone.
func TestGivesUpItsOwnBest(t *testing.T) {
	are(t, [][]int{{10, 9}, {10, 0}}, 2, 19, []int{9, 9}, []int{1, 0})
	for many := 2; many <= 8; many++ {
		gains, u, p := [][]int{}, []int{}, []int{}
		for bidder := range many {
			by := slices.Repeat([]int{-1}, many)
			if bidder+1 < many {
				by[bidder], by[bidder+1] = 10, 9
			} else {
				by[0] = 10
			}
			gains = append(gains, by)
			p = append(p, many-1-bidder)
			u = append(u, 11-many+bidder)
		}
		u[many-1] = 11 - many
		are(t, gains, many, 10+9*(many-1), u, p)
		slices.Reverse(gains)
		slices.Reverse(u)
		are(t, gains, many, 10+9*(many-1), u, p)
	}
	// One has to have none, though it gains more by each item than others do by theirs.
	are(t, [][]int{{6, 6}, {9, 2}, {2, 9}}, 2, 18, []int{0, 3, 3}, []int{6, 6})
}

// P10.2: one more of an item is just one more, of just that item; nobody has two.
func TestJustOneMore(t *testing.T) {
	are(t, [][]int{{9}, {9}, {9}}, 1, 9, []int{0, 0, 0}, []int{9})
	are(t, [][]int{{9, 1}, {8, 1}, {7, 1}}, 2, 10, []int{1, 0, 0}, []int{8, 1})
	are(t, [][]int{{9, 8}, {9, 8}}, 2, 17, []int{8, 8}, []int{1, 0})
	are(t, [][]int{{4, 9, 2}}, 3, 9, []int{9}, []int{0, 0, 0})
	are(t, [][]int{{5, 5}, {5, 5}}, 2, 10, []int{5, 5}, []int{0, 0})
}

// P10.1, P10.2: as many bidders and items as there may be, and one more of each.
func TestTheMostThereMayBe(t *testing.T) {
	gains := slices.Repeat([][]int{slices.Repeat([]int{most}, 8)}, 8)
	are(t, gains, 8, 8*most, slices.Repeat([]int{most}, 8), make([]int, 8))
	mayNotBe(t, append(gains, gains[0]), 8)
	for seed := range 60 {
		asTold(t, drawn(8, 8, seed), 8)
	}
}

// P10.1, P10.2: items below 1 or beyond the most, whatever the lists are.
func TestItemsThatMayNotBe(t *testing.T) {
	for _, items := range append([]int{0, -1, -2, -8, 9, 10, 16, 64, 255, 256, 257}, far...) {
		mayNotBe(t, nil, items)
		mayNotBe(t, [][]int{}, items)
		mayNotBe(t, [][]int{nil}, items)
		mayNotBe(t, make([][]int, 8), items)
		mayNotBe(t, [][]int{{1}}, items)
		if items >= 0 && items < 300 {
			for bidders := 1; bidders <= 9; bidders++ {
				mayNotBe(t, slices.Repeat([][]int{make([]int, items)}, bidders), items)
			}
		}
	}
}

// P10.1, P10.2: more lists than there may be bidders.
func TestTooManyLists(t *testing.T) {
	for _, bidders := range []int{9, 10, 16, 17, 64, 65, 255, 256, 257, 300} {
		for items := 1; items <= 8; items++ {
			mayNotBe(t, make([][]int, bidders), items)
			mayNotBe(t, slices.Repeat([][]int{slices.Repeat([]int{-1}, items)}, bidders), items)
			mayNotBe(t, slices.Repeat([][]int{slices.Repeat([]int{1}, items)}, bidders), items)
		}
	}
}

// mayNotStand fails unless no list of so many bidders may be that one, whoever's it is.
func mayNotStand(t *testing.T, bad []int, bidders, items int) {
	t.Helper()
	for bidder := range bidders {
		gains := slices.Repeat([][]int{make([]int, items)}, bidders)
		gains[bidder] = bad
		mayNotBe(t, gains, items)
	}
}

// P10.1, P10.2: lists that are too short, or too long, at each place.
func TestListsOfOtherLengths(t *testing.T) {
	for items := 1; items <= 8; items++ {
		for many := range 20 {
			if many == items {
				continue
			}
			for bidders := 1; bidders <= 8; bidders++ {
				mayNotStand(t, make([]int, many), bidders, items)
				mayNotStand(t, slices.Repeat([]int{-1}, many), bidders, items)
			}
		}
		mayNotStand(t, nil, 8, items)
		// One that is too long does not make up for one that is too short.
		mayNotBe(t, [][]int{make([]int, items-1), make([]int, items+1)}, items)
		mayNotBe(t, [][]int{make([]int, items+1), make([]int, items-1)}, items)
	}
}

// P10.1, P10.2: numbers beyond the most either way, at each place; the most itself may be.
func TestNumbersThatMayNotBe(t *testing.T) {
	for items := 1; items <= 8; items++ {
		for bidders := 1; bidders <= 8; bidders++ {
			for item := range items {
				for _, n := range far {
					bad := make([]int, items)
					bad[item] = n
					mayNotStand(t, bad, bidders, items)
				}
				for _, n := range edges {
					gains := slices.Repeat([][]int{slices.Repeat([]int{-1}, items)}, bidders)
					gains[bidders-1] = slices.Repeat([]int{-1}, items)
					gains[bidders-1][item] = n
					u := make([]int, bidders)
					u[bidders-1] = max(n, 0)
					are(t, gains, items, max(n, 0), u, make([]int, items))
				}
			}
		}
	}
	mayNotBe(t, [][]int{{most + 1, -most - 1}}, 2)
	mayNotBe(t, [][]int{{most + 1}, {-most - 1}}, 1)
}

// roomy is a list with numbers in its spare room.
func roomy(l []int) []int {
	return append(slices.Clone(l), 91, 92, 93)[:len(l)]
}

// roomyLists are lists with more lists in their spare room, and numbers in that of each.
func roomyLists(g [][]int) [][]int {
	h := [][]int{}
	for _, l := range g {
		h = append(h, roomy(l))
	}
	return append(h, []int{77}, []int{78})[:len(g)]
}

// wholeLists are all of these lists, spare room too, as they stand now.
func wholeLists(g [][]int) [][]int {
	h := [][]int{}
	for _, l := range g[:cap(g)] {
		h = append(h, slices.Clone(l[:cap(l)]))
	}
	return h
}

// R4: no call changes what it is handed, spare room neither.
func TestNothingIsChanged(t *testing.T) {
	each(func(one [][]int, items int) {
		gains := roomyLists(one)
		before := wholeLists(gains)
		for _, n := range []int{items, 0, items + 1, 9} {
			weights.Best(gains, n)
			weights.Proved(gains, n)
		}
		if after := wholeLists(gains); !same(after, before) {
			t.Errorf("%v was %v", after, before)
		}
	})
}

// R4: spare room is not part of what is handed in; an empty list is as none.
func TestSpareRoomIsNotRead(t *testing.T) {
	gains := [][]int{[]int{5, 2, 9}[:2], []int{4, 0, most + 1}[:2], {9, 9}, nil}[:2]
	are(t, gains, 2, 6, []int{2, 1}, []int{3, 0})
	are(t, [][]int{{9}, {9}}[:0], 1, 0, nil, []int{0})
	are(t, make([][]int, 0, 300), 8, 0, nil, make([]int, 8))
	mayNotBe(t, [][]int{[]int{5, 2}[:1]}, 2)
	mayNotBe(t, [][]int{[]int{5, 2}[:0]}, 1)
	mayNotBe(t, [][]int{make([]int, 0, 8)}, 8)
}

// spoil writes n over all of l, spare room too.
func spoil(l []int, n int) {
	l = l[:cap(l)]
	for i := range l {
		l[i] = n
	}
}

// R4, R5: an answer shares no memory with what was handed in, nor with another answer, nor do its two lists; nothing that was handed in, or answered before, is kept.
func TestAnswersShareNoMemory(t *testing.T) {
	each(func(gains [][]int, items int) {
		of := ofItems(gains, items)
		bidders := ofBidders(gains, of)
		handed := clone(gains)
		u, p, _ := weights.Proved(handed, items)
		v, q, _ := weights.Proved(handed, items)
		spoil(u, 99)
		if !slices.Equal(p, of) {
			t.Errorf("of %v, %d: the lists of an answer share memory", gains, items)
		}
		spoil(p, 98)
		if !same(handed, gains) {
			t.Errorf("of %v, %d: an answer shares memory with what was handed in", gains, items)
		}
		for _, l := range handed {
			spoil(l, 97)
		}
		if !slices.Equal(v, bidders) || !slices.Equal(q, of) {
			t.Errorf("of %v, %d: two answers share memory, or what was handed in is kept", gains, items)
		}
		provedIs(t, gains, items, bidders, of)
	})
}

// R4: the same list handed in several times is as several.
func TestOneListForMany(t *testing.T) {
	by := []int{5, 3}
	are(t, [][]int{by, by, by}, 2, 8, []int{0, 0, 0}, []int{5, 3})
	if !slices.Equal(by, []int{5, 3}) {
		t.Error(by)
	}
}

// R5: what was asked before, well or wrong, is nothing to what is asked now.
func TestNothingIsKept(t *testing.T) {
	some(func(gains [][]int, items int) {
		best, _ := weights.Best(gains, items)
		u, p, _ := weights.Proved(gains, items)
		full := slices.Repeat([][]int{slices.Repeat([]int{most}, 8)}, 8)
		weights.Best(full, 8)
		weights.Proved(full, 8)
		weights.Proved(full, 7)
		are(t, gains, items, best, u, p)
	})
}

// R1: long lists, which may not be.
func TestLongLists(t *testing.T) {
	mayNotBe(t, [][]int{make([]int, 100000)}, 8)
	mayNotBe(t, [][]int{{1}, make([]int, 100000)}, 1)
	mayNotBe(t, [][]int{make([]int, 100000)}, 100000)
	mayNotBe(t, make([][]int, 100000), 8)
	mayNotBe(t, make([][]int, 100000), 100000)
}

// numbersOf is a number of each byte: small ones, and such as stand about the most either way.
func numbersOf(b []byte) []int {
	l := []int{}
	for _, n := range b {
		switch {
		case n >= 100 && n < 128:
			l = append(l, most+int(n)-126)
		case n > 128 && n < 156:
			l = append(l, -most-int(n)+130)
		default:
			l = append(l, int(int8(n)))
		}
	}
	return l
}

// splitAt is what stands between these bytes.
func splitAt(b []byte, at byte) [][]byte {
	parts := [][]byte{{}}
	for _, n := range b {
		if n == at {
			parts = append(parts, []byte{})
		} else {
			last := len(parts) - 1
			parts[last] = append(parts[last], n)
		}
	}
	return parts
}

// R1, R2, P10.1, P10.2: any lists; the byte 128 parts them.
func FuzzAll(f *testing.F) {
	f.Add(2, []byte{5, 2, 128, 4, 0})
	f.Add(1, []byte{255})
	f.Add(1, []byte{126, 128, 126, 128, 0})
	f.Add(1, []byte{127})
	f.Add(2, []byte{130, 126, 128, 126, 130})
	f.Add(2, []byte{131, 126})
	f.Add(8, []byte{0, 1, 2, 3, 4, 5, 6, 7})
	f.Add(0, []byte{})
	f.Add(9, []byte{0, 1, 2, 3, 4, 5, 6, 7, 8})
	f.Fuzz(func(t *testing.T, items int, all []byte) {
		gains := [][]int{}
		for _, one := range splitAt(all, 128) {
			gains = append(gains, numbersOf(one))
		}
		check(t, gains, items)
	})
}
