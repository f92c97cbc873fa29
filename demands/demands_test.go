package demands_test

import (
	"math"
	"slices"
	"testing"

	"salesroom/api"
	"salesroom/demands"
)

// most is a number that is a limit of what is bid; twice that is one of what an item may cost.
const most = api.MaxPrice

// far are numbers far off all that may be: of what is bid, of reserves, of prices.
var far = []int{2*most + 1, 2*most + 2, 3 * most, 4 * most, 1 << 31, 1 << 32, 1<<32 + 1, 1 << 62, math.MaxInt - 1, math.MaxInt, -1, -2, -most, -2 * most, -1 << 31, -1 << 32, -1 << 62, math.MinInt + 1, math.MinInt}

// edges are the numbers at which what may be bid changes, and prices those of what an item may cost.
var (
	edges  = []int{0, 1, most - 1, most}
	prices = []int{0, 1, most - 1, most, most + 1, 2*most - 1, 2 * most}
)

// upTo is 0, 1 .., so many.
func upTo(n int) []int {
	l := []int{}
	for i := range n {
		l = append(l, i)
	}
	return l
}

// bidMayBe is whether a bid may be for so many items, told by the words alone; an empty one is none.
func bidMayBe(bid []int, items int) bool {
	return len(bid) == 0 || len(bid) == items && slices.Min(bid) >= 0 && slices.Max(bid) <= 1000000
}

// pricesMayBe is whether prices may be, told by the words alone.
func pricesMayBe(at []int) bool {
	return len(at) >= 1 && len(at) <= 8 && slices.Min(at) >= 0 && slices.Max(at) <= 2000000
}

// marketMayBe is whether a market may be, told by the words alone.
func marketMayBe(m api.Market) bool {
	for _, bid := range m.Bids {
		if !bidMayBe(bid, len(m.Reserves)) {
			return false
		}
	}
	return len(m.Reserves) >= 1 && len(m.Reserves) <= 8 && bidMayBe(m.Reserves, len(m.Reserves)) &&
		len(m.Bids) >= 1 && len(m.Bids) <= 8 &&
		slices.Equal(slices.Sorted(slices.Values(m.Order)), upTo(len(m.Bids)))
}

// told is what Of has to answer, told by the words alone.
func told(bid, at []int) (items []int, none bool, gain int) {
	gains := []int{0}
	for item := range bid {
		gains = append(gains, bid[item]-at[item])
	}
	gain = slices.Max(gains)
	for item := range bid {
		if bid[item]-at[item] == gain {
			items = append(items, item)
		}
	}
	return items, gain == 0 || len(items) == 0, gain
}

// is fails unless Of is that.
func is(t *testing.T, bid, at, items []int, none bool, gain int) {
	t.Helper()
	if l, n, g, e := demands.Of(bid, at); e != api.OK || !slices.Equal(l, items) || n != none || g != gain {
		t.Errorf("Of(%v, %v) = %v, %v, %d, %d, want %v, %v, %d", bid, at, l, n, g, e, items, none, gain)
	}
}

// asTold fails unless Of answers what the words tell.
func asTold(t *testing.T, bid, at []int) {
	t.Helper()
	items, none, gain := told(bid, at)
	is(t, bid, at, items, none, gain)
}

// mayNotBe fails unless Of tells that these may not be, and nothing else.
func mayNotBe(t *testing.T, bid, at []int) {
	t.Helper()
	if l, n, g, e := demands.Of(bid, at); e != api.ErrArg || len(l) != 0 || n || g != 0 {
		t.Errorf("Of(%v, %v) = %v, %v, %d, %d, want ErrArg", bid, at, l, n, g, e)
	}
}

// check holds Of against the words, whatever comes in.
func check(t *testing.T, bid, at []int) {
	t.Helper()
	if pricesMayBe(at) && bidMayBe(bid, len(at)) {
		asTold(t, bid, at)
	} else {
		mayNotBe(t, bid, at)
	}
}

// same is whether two lists of lists are; an empty list and none are the same.
func same(a, b [][]int) bool {
	return slices.EqualFunc(a, b, slices.Equal[[]int])
}

// allTold fails unless All answers what the words tell of each bidder.
func allTold(t *testing.T, m api.Market, at []int) {
	t.Helper()
	var items [][]int
	var none []bool
	for _, bid := range m.Bids {
		l, n, _ := told(bid, at)
		items, none = append(items, l), append(none, n)
	}
	if l, n, e := demands.All(m, at); e != api.OK || !same(l, items) || !slices.Equal(n, none) {
		t.Errorf("All(%v, %v) = %v, %v, %d, want %v, %v", m, at, l, n, e, items, none)
	}
}

// allMayNotBe fails unless All tells that these may not be, and nothing else.
func allMayNotBe(t *testing.T, m api.Market, at []int) {
	t.Helper()
	if l, n, e := demands.All(m, at); e != api.ErrArg || len(l) != 0 || len(n) != 0 {
		t.Errorf("All(%v, %v) = %v, %v, %d, want ErrArg", m, at, l, n, e)
	}
}

// checkAll holds All against the words, whatever comes in.
func checkAll(t *testing.T, m api.Market, at []int) {
	t.Helper()
	if marketMayBe(m) && len(at) == len(m.Reserves) && pricesMayBe(at) {
		allTold(t, m, at)
	} else {
		allMayNotBe(t, m, at)
	}
}

// lists calls f with all lists of so many of these numbers.
func lists(many int, numbers []int, f func(l []int)) {
	of := 1
	for range many {
		of *= len(numbers)
	}
	for which := range of {
		l := []int{}
		for range many {
			l = append(l, numbers[which%len(numbers)])
			which /= len(numbers)
		}
		f(l)
	}
}

// small calls f with all bids of few items, by few numbers, and such at the edges, at all such prices.
func small(f func(bid, at []int)) {
	for items := 1; items <= 3; items++ {
		lists(items, upTo(4), func(at []int) {
			f(nil, at)
			lists(items, upTo(4), func(bid []int) { f(bid, at) })
		})
	}
	for items := 1; items <= 2; items++ {
		lists(items, prices, func(at []int) {
			f(nil, at)
			lists(items, edges, func(bid []int) { f(bid, at) })
		})
	}
}

// draw is numbers that hang on the seed alone.
type draw int

func (d *draw) below(n int) int {
	*d = (*d*1103515245 + 12345) & math.MaxInt32
	return int(*d>>8) % n
}

// list is so many numbers below n.
func (d *draw) list(many, n int) []int {
	l := []int{}
	for range many {
		l = append(l, d.below(n))
	}
	return l
}

// of is so many of these numbers.
func (d *draw) of(many int, numbers []int) []int {
	l := []int{}
	for range many {
		l = append(l, numbers[d.below(len(numbers))])
	}
	return l
}

// drawn is a bid and prices of each kind: of few numbers, of many, of those at the edges, of what is dear, or cheap; and, of some, no bid.
func drawn(items, seed int) (bid, at []int) {
	d := draw(seed*7919 + items*31)
	switch seed % 6 {
	case 0:
		bid, at = d.list(items, 3), d.list(items, 3)
	case 1:
		bid, at = d.list(items, most+1), d.list(items, 2*most+1)
	case 2:
		bid, at = d.of(items, edges), d.of(items, prices)
	case 3:
		bid, at = d.list(items, 20), d.list(items, 3)
	case 4:
		bid, at = d.list(items, 4), d.list(items, 20)
	case 5:
		bid, at = d.list(items, 30), d.list(items, 30)
	}
	if d.below(16) == 0 {
		bid = nil
	}
	return bid, at
}

// some calls f with a few bids and prices of each size.
func some(f func(bid, at []int)) {
	for items := 1; items <= 8; items++ {
		for seed := range 150 {
			f(drawn(items, seed))
		}
	}
}

// each calls f with all that is small, and with a few of each size.
func each(f func(bid, at []int)) {
	small(f)
	some(f)
}

// market is one of each size, and prices.
func market(bidders, items, seed int) (m api.Market, at []int) {
	d := draw(seed*104729 + bidders*97 + items)
	m.Reserves, at = drawn(items, seed)
	if m.Reserves == nil {
		m.Reserves = make([]int, items)
	}
	for bidder := range bidders {
		bid, _ := drawn(items, seed+6*(bidder+1)*(bidder+1))
		m.Bids = append(m.Bids, bid)
		m.Order = slices.Insert(m.Order, d.below(bidder+1), bidder)
	}
	return m, at
}

// markets calls f with a few markets and prices of each size.
func markets(f func(m api.Market, at []int)) {
	for bidders := 1; bidders <= 8; bidders++ {
		for items := 1; items <= 8; items++ {
			for seed := range 18 {
				f(market(bidders, items, seed))
			}
		}
	}
}

// plain is a market of so many bidders, all with that bid, at no reserves.
func plain(bidders int, bid []int, items int) api.Market {
	return api.Market{Reserves: make([]int, items), Bids: slices.Repeat([][]int{bid}, bidders), Order: upTo(bidders)}
}

// The chapter's examples.
func TestExamples(t *testing.T) {
	is(t, []int{5, 3}, []int{1, 0}, []int{0}, false, 4)
	is(t, []int{5, 4}, []int{1, 0}, []int{0, 1}, false, 4)
	is(t, []int{5, 3}, []int{5, 3}, []int{0, 1}, true, 0)
	is(t, []int{5, 3}, []int{6, 4}, nil, true, 0)
	is(t, nil, []int{1}, nil, true, 0)
	mayNotBe(t, []int{5}, []int{1, 1})
	mayNotBe(t, []int{5}, []int{-1})
}

// P12.1: Of against the words: of each small bid at all small prices, and of each size.
func TestAgainstTheWords(t *testing.T) {
	each(func(bid, at []int) { asTold(t, bid, at) })
}

// P12.1: one that would lose by each has no item, and none is as good, however little it would lose.
func TestLosesByEach(t *testing.T) {
	for items := 1; items <= 8; items++ {
		for _, said := range edges {
			for _, price := range prices {
				if price > said {
					is(t, slices.Repeat([]int{said}, items), slices.Repeat([]int{price}, items), nil, true, 0)
				}
			}
		}
		bid := make([]int, items)
		is(t, bid, slices.Repeat([]int{1}, items), nil, true, 0)
		is(t, bid, slices.Repeat([]int{2 * most}, items), nil, true, 0)
	}
	is(t, []int{3, 9, 0}, []int{4, 20, 2}, nil, true, 0) // not the item by which the least is lost
}

// P12.1: at just what it says each item is as good as none.
func TestAsGoodAsNone(t *testing.T) {
	for items := 1; items <= 8; items++ {
		for seed := range 12 {
			d := draw(seed)
			bid := d.list(items, most+1)
			is(t, bid, bid, upTo(items), true, 0)
			for item := range items { // one that costs more, one that costs less
				dear := slices.Clone(bid)
				dear[item]++
				is(t, bid, dear, slices.Delete(upTo(items), item, item+1), true, 0)
				if bid[item] > 0 {
					cheap := slices.Clone(bid)
					cheap[item]--
					is(t, bid, cheap, []int{item}, false, 1)
				}
			}
		}
		is(t, make([]int, items), make([]int, items), upTo(items), true, 0)
		is(t, slices.Repeat([]int{most}, items), make([]int, items), upTo(items), false, most)
	}
}

// P12.1: of several at the most, all, rising; and each alone, and each two, whatever stands between.
func TestAllOfTheMost(t *testing.T) {
	for items := 1; items <= 8; items++ {
		for set := range 1 << items {
			bid, at, want := []int{}, []int{}, []int(nil)
			for item := range items {
				bid, at = append(bid, 10+item), append(at, item+1)
				if set>>item&1 == 1 {
					at[item]--
					want = append(want, item)
				}
			}
			if set > 0 {
				is(t, bid, at, want, false, 10)
			} else {
				is(t, bid, at, upTo(items), false, 9)
			}
		}
	}
	is(t, []int{1, 2, 3, 2, 3, 1}, make([]int, 6), []int{2, 4}, false, 3)
	is(t, []int{3, 2, 1, 2, 3, 1}, make([]int, 6), []int{0, 4}, false, 3)
	is(t, []int{3, 3, 4, 4, 5, 5}, make([]int, 6), []int{4, 5}, false, 5)
	is(t, []int{5, 5, 4, 4, 3, 3}, make([]int, 6), []int{0, 1}, false, 5)
	is(t, []int{9, 0, 9, 0}, []int{4, 0, 3, 0}, []int{2}, false, 6) // by what it gains, not by what it says
}

// P12.1: an empty bid has no items at any prices, at all noughts, too.
func TestNoBid(t *testing.T) {
	for items := 1; items <= 8; items++ {
		for _, none := range [][]int{nil, {}, make([]int, 0, 9), {7, 7}} {
			for _, price := range prices {
				is(t, none[:0], slices.Repeat([]int{price}, items), nil, true, 0)
			}
		}
	}
}

// P12.1: prices and bids of the least and the most, at each place.
func TestNumbersAtTheEdges(t *testing.T) {
	for items := 1; items <= 8; items++ {
		for item := range items {
			for _, n := range edges {
				bid := make([]int, items)
				bid[item] = n
				asTold(t, bid, make([]int, items))
				asTold(t, bid, slices.Repeat([]int{1}, items))
			}
			for _, n := range prices {
				at := make([]int, items)
				at[item] = n
				asTold(t, make([]int, items), at)
				asTold(t, slices.Repeat([]int{most}, items), at)
				asTold(t, nil, at)
			}
		}
	}
	is(t, []int{most, most}, []int{most, 2 * most}, []int{0}, true, 0)
	is(t, []int{0, most}, []int{2 * most, most - 1}, []int{1}, false, 1)
}

// P12.1: prices that may not be, at each place: below 0, or above twice the most.
func TestPricesThatMayNotBe(t *testing.T) {
	for items := 1; items <= 8; items++ {
		for item := range items {
			for _, n := range far {
				at := make([]int, items)
				at[item] = n
				mayNotBe(t, make([]int, items), at)
				mayNotBe(t, slices.Repeat([]int{most}, items), at)
				mayNotBe(t, nil, at)
				allMayNotBe(t, plain(1, make([]int, items), items), at)
				allMayNotBe(t, plain(8, nil, items), at)
			}
		}
	}
	mayNotBe(t, []int{0, 0}, []int{-1, 2*most + 1})
}

// P12.1: no prices, and more than there may be items.
func TestSoManyPrices(t *testing.T) {
	for _, many := range []int{0, 9, 10, 16, 17, 64, 255, 256, 257, 300} {
		mayNotBe(t, nil, make([]int, many))
		mayNotBe(t, []int{}, make([]int, many))
		mayNotBe(t, make([]int, many), make([]int, many))
		mayNotBe(t, make([]int, 8), make([]int, many))
	}
	mayNotBe(t, nil, nil)
	mayNotBe(t, []int{1}, nil)
}

// P12.1: bids that may not be: of other lengths than the prices.
func TestBidsOfOtherLengths(t *testing.T) {
	for items := 1; items <= 8; items++ {
		for many := 1; many < 20; many++ {
			if many != items {
				mayNotBe(t, make([]int, many), make([]int, items))
				mayNotBe(t, slices.Repeat([]int{9}, many), slices.Repeat([]int{5}, items))
			}
		}
	}
}

// P12.1: bids that may not be: with a number below 0, or above the most, at each place.
func TestBidsThatMayNotBe(t *testing.T) {
	for items := 1; items <= 8; items++ {
		for item := range items {
			for _, n := range append([]int{most + 1, most + 2, 2 * most}, far...) {
				bid := make([]int, items)
				bid[item] = n
				mayNotBe(t, bid, make([]int, items))
				mayNotBe(t, bid, slices.Repeat([]int{2 * most}, items))
				for bidder := range 3 {
					m := plain(3, nil, items)
					m.Bids[bidder] = bid
					allMayNotBe(t, m, make([]int, items))
				}
			}
		}
	}
}

// R2: a bid and prices that both may not be.
func TestAllWrong(t *testing.T) {
	mayNotBe(t, []int{-1}, []int{-1})
	mayNotBe(t, []int{most + 1}, nil)
	mayNotBe(t, make([]int, 9), make([]int, 10))
	mayNotBe(t, []int{-1, 0}, []int{2*most + 1})
	allMayNotBe(t, api.Market{}, nil)
	allMayNotBe(t, api.Market{}, []int{-1})
	allMayNotBe(t, plain(9, []int{-1}, 1), []int{2*most + 1, 0})
}

// P12.2: All against the words, of each size.
func TestAllAgainstTheWords(t *testing.T) {
	markets(func(m api.Market, at []int) { allTold(t, m, at) })
}

// P12.2: All is Of of each bidder's bid, one behind the other as they are numbered, however they stand in the order.
func TestAllIsOfOfEach(t *testing.T) {
	markets(func(m api.Market, at []int) {
		items, none, e := demands.All(m, at)
		if e != api.OK || len(items) != len(m.Bids) || len(none) != len(m.Bids) {
			t.Fatalf("All(%v, %v) = %v, %v, %d", m, at, items, none, e)
		}
		for bidder, bid := range m.Bids {
			l, n, _, _ := demands.Of(bid, at)
			if !slices.Equal(items[bidder], l) || none[bidder] != n {
				t.Errorf("All(%v, %v): of %d %v, %v, but Of %v, %v", m, at, bidder, items[bidder], none[bidder], l, n)
			}
		}
		slices.Reverse(m.Order)
		allTold(t, m, at)
	})
}

// P12.2: what items cost at least is nothing to what one would have: prices below the reserves may be.
func TestReservesAreNothingToPrices(t *testing.T) {
	markets(func(m api.Market, at []int) {
		for _, reserve := range edges {
			m.Reserves = slices.Repeat([]int{reserve}, len(m.Reserves))
			allTold(t, m, at)
		}
	})
	allTold(t, api.Market{Reserves: []int{most}, Bids: [][]int{{3}}, Order: []int{0}}, []int{2})
}

// P12.2: bidders without a bid, all of them, and each alone.
func TestAllWithoutBids(t *testing.T) {
	for bidders := 1; bidders <= 8; bidders++ {
		for items := 1; items <= 8; items++ {
			at := make([]int, items)
			allTold(t, plain(bidders, nil, items), at)
			allTold(t, plain(bidders, []int{}, items), at)
			for bidder := range bidders {
				m := plain(bidders, slices.Repeat([]int{3}, items), items)
				m.Bids[bidder] = nil
				allTold(t, m, at)
				allTold(t, m, slices.Repeat([]int{3}, items))
			}
		}
	}
}

// P12.2: prices that are not as many as the items.
func TestAllWithOtherPrices(t *testing.T) {
	for items := 1; items <= 8; items++ {
		for many := range 20 {
			for _, bid := range [][]int{nil, make([]int, items)} {
				if many != items {
					allMayNotBe(t, plain(2, bid, items), make([]int, many))
				} else {
					allTold(t, plain(2, bid, items), make([]int, many))
				}
			}
		}
		allMayNotBe(t, plain(2, nil, items), nil)
	}
}

// P12.2: markets that may not be: of no items or bidders, or too many; of a reserve, or a bid, or an order that may not be.
func TestMarketsThatMayNotBe(t *testing.T) {
	for _, items := range []int{0, 9, 10, 256, 257} {
		allMayNotBe(t, plain(1, nil, items), make([]int, items))
		allMayNotBe(t, plain(1, make([]int, items), items), make([]int, items))
		allMayNotBe(t, plain(1, nil, items), make([]int, 8))
	}
	for _, bidders := range []int{0, 9, 10, 256, 257} {
		allMayNotBe(t, plain(bidders, []int{1, 1}, 2), []int{0, 0})
		allMayNotBe(t, plain(bidders, nil, 2), []int{0, 0})
	}
	for _, n := range append([]int{most + 1, 2 * most}, far...) {
		for item := range 3 {
			m := plain(2, []int{1, 2, 3}, 3)
			m.Reserves[item] = n
			allMayNotBe(t, m, []int{0, 0, 0})
		}
	}
	for many := range 20 {
		if many > 0 && many != 3 {
			m := plain(2, []int{1, 2, 3}, 3)
			m.Bids[1] = make([]int, many)
			allMayNotBe(t, m, []int{0, 0, 0})
		}
	}
	for _, order := range [][]int{nil, {0}, {1}, {0, 0}, {1, 1}, {0, 2}, {-1, 0}, {1, 0, 0}, {0, 1, 2}, {0, 1, 0}} {
		m := plain(2, []int{1}, 1)
		m.Order = order
		allMayNotBe(t, m, []int{0})
	}
}

// P12.2: as many bidders and items as there may be.
func TestTheMostThereMayBe(t *testing.T) {
	for _, n := range edges {
		for _, price := range prices {
			allTold(t, plain(8, slices.Repeat([]int{n}, 8), 8), slices.Repeat([]int{price}, 8))
		}
	}
}

// P12.3: nobody gains more by any item than it is told; nor more than 0 by none, as nobody is told less.
func TestNobodyGainsMore(t *testing.T) {
	each(func(bid, at []int) {
		items, none, gain, e := demands.Of(bid, at)
		if e != api.OK || gain < 0 {
			t.Fatalf("Of(%v, %v) = %v, %v, %d, %d", bid, at, items, none, gain, e)
		}
		for item := range bid {
			by := bid[item] - at[item]
			if by > gain || (by == gain) != slices.Contains(items, item) {
				t.Errorf("Of(%v, %v) = %v, %v, %d, but %d by %d", bid, at, items, none, gain, by, item)
			}
		}
		if none != (gain == 0) || len(items) == 0 && !none {
			t.Errorf("Of(%v, %v) = %v, %v, %d", bid, at, items, none, gain)
		}
	})
}

// higher is a list with each number higher by as much.
func higher(l []int, by int) []int {
	var h []int
	for _, n := range l {
		h = append(h, n+by)
	}
	return h
}

// P12.3: all prices, and what is said, higher by as much: the items are the same; lower likewise.
func TestHigherByAsMuch(t *testing.T) {
	each(func(bid, at []int) {
		items, none, gain := told(bid, at)
		for _, by := range []int{1, 7, most, -1, -2, -most} {
			h, p := higher(bid, by), higher(at, by)
			if pricesMayBe(p) && bidMayBe(h, len(p)) {
				is(t, h, p, items, none, gain)
			}
		}
	})
}

// dearer is prices of which one is higher.
func dearer(at []int, item, by int) []int {
	h := slices.Clone(at)
	h[item] += by
	return h
}

// P12.3: a price is higher: with an item that it would not have it would have the same; with one that it would have, the others still, if there are others.
func TestOnePriceIsHigher(t *testing.T) {
	each(func(bid, at []int) {
		items, none, gain := told(bid, at)
		for item := range at {
			for _, by := range []int{1, 2, most} {
				p := dearer(at, item, by)
				if !pricesMayBe(p) {
					continue
				}
				place, would := slices.BinarySearch(items, item)
				if !would {
					is(t, bid, p, items, none, gain)
				} else if others := slices.Delete(slices.Clone(items), place, place+1); len(others) > 0 {
					is(t, bid, p, others, none, gain)
				}
			}
		}
	})
	is(t, []int{5, 3}, []int{2, 0}, []int{0, 1}, false, 3)
	is(t, []int{5, 3}, []int{3, 0}, []int{1}, false, 3)
	is(t, []int{5, 3}, []int{3, 1}, []int{0, 1}, false, 2) // no others: what it has is less
	is(t, []int{5, 3}, []int{5, 4}, []int{0}, true, 0)
	is(t, []int{5, 3}, []int{6, 4}, nil, true, 0)
}

// roomy is a list with numbers in its spare room.
func roomy(l []int) []int {
	return append(slices.Clone(l), 91, 92, 93)[:len(l)]
}

// roomyMarket is a market with more in the spare room of all of its lists.
func roomyMarket(m api.Market) api.Market {
	bids := [][]int{}
	for _, bid := range m.Bids {
		bids = append(bids, roomy(bid))
	}
	bids = append(bids, []int{77}, []int{78})[:len(m.Bids)]
	return api.Market{Reserves: roomy(m.Reserves), Bids: bids, Order: roomy(m.Order)}
}

// whole are all lists of a market, spare room too, as they stand now.
func whole(m api.Market) [][]int {
	l := [][]int{slices.Clone(m.Reserves[:cap(m.Reserves)]), slices.Clone(m.Order[:cap(m.Order)])}
	for _, bid := range m.Bids[:cap(m.Bids)] {
		l = append(l, slices.Clone(bid[:cap(bid)]))
	}
	return l
}

// R4: no call changes what it is handed, spare room neither.
func TestNothingIsChanged(t *testing.T) {
	markets(func(one api.Market, at []int) {
		m, p := roomyMarket(one), roomy(at)
		before, cost := whole(m), slices.Clone(p[:cap(p)])
		for _, q := range [][]int{p, p[:len(p)-1], p[:len(p)+1], nil} {
			demands.All(m, q)
			for _, bid := range m.Bids {
				demands.Of(bid, q)
			}
		}
		if !same(whole(m), before) || !slices.Equal(p[:cap(p)], cost) {
			t.Errorf("%v, %v was %v, %v", whole(m), p[:cap(p)], before, cost)
		}
	})
}

// R4: spare room is not part of what is handed in; an empty list is as none.
func TestSpareRoomIsNotRead(t *testing.T) {
	is(t, []int{5, 3, 9}[:2], []int{1, 0, -1}[:2], []int{0}, false, 4)
	is(t, []int{5, -3}[:1], []int{1, 0}[:1], []int{0}, false, 4)
	is(t, []int{5, 3}[:0], []int{1}, nil, true, 0)
	mayNotBe(t, []int{5, 3}[:1], []int{1, 0})
	mayNotBe(t, []int{5, 3}, []int{1, 0}[:1])
	mayNotBe(t, []int{5, 3}, []int{1, 0}[:0])
	m := api.Market{Reserves: []int{0, 0, -1}[:2], Bids: [][]int{[]int{5, 3, 9}[:2], []int{7, 7}[:0], {-1}}[:2], Order: []int{1, 0, 0}[:2]}
	allTold(t, m, []int{1, 0, -1}[:2])
}

// spoil writes n over all of l, spare room too.
func spoil(l []int, n int) {
	l = l[:cap(l)]
	for i := range l {
		l[i] = n
	}
}

// R4, R5: an answer of Of shares no memory with what was handed in, nor with another answer; nothing that was handed in, or answered before, is kept.
func TestAnswersShareNoMemory(t *testing.T) {
	each(func(bid, at []int) {
		items, none, gain := told(bid, at)
		said, cost := slices.Clone(bid), slices.Clone(at)
		a, _, _, _ := demands.Of(said, cost)
		b, _, _, _ := demands.Of(said, cost)
		spoil(a, 99)
		if !slices.Equal(said, bid) || !slices.Equal(cost, at) {
			t.Errorf("of %v, %v: an answer shares memory with what was handed in", bid, at)
		}
		spoil(said, 98)
		spoil(cost, 97)
		if !slices.Equal(b, items) {
			t.Errorf("of %v, %v: two answers share memory, or what was handed in is kept", bid, at)
		}
		is(t, bid, at, items, none, gain)
	})
}

// clone is the same market in memory of its own.
func clone(m api.Market) api.Market {
	bids := [][]int{}
	for _, bid := range m.Bids {
		bids = append(bids, slices.Clone(bid))
	}
	return api.Market{Reserves: slices.Clone(m.Reserves), Bids: bids, Order: slices.Clone(m.Order)}
}

// listsOf are all lists of a market.
func listsOf(m api.Market) [][]int {
	return append([][]int{m.Reserves, m.Order}, m.Bids...)
}

// R4, R5: answers of All likewise; nor do two lists within one answer share any.
func TestAllAnswersShareNoMemory(t *testing.T) {
	markets(func(m api.Market, at []int) {
		handed, cost := clone(m), slices.Clone(at)
		a, noneA, _ := demands.All(handed, cost)
		b, noneB, _ := demands.All(handed, cost)
		want, noneWant := clone(api.Market{Bids: b}).Bids, slices.Clone(noneB)
		for bidder, l := range a {
			spoil(l, 99)
			for other := bidder + 1; other < len(a); other++ {
				if !slices.Equal(a[other], want[other]) {
					t.Errorf("of %v, %v: two lists of an answer share memory", m, at)
				}
			}
		}
		for bidder := range a[:cap(a)] {
			a[:cap(a)][bidder] = nil
		}
		for bidder := range noneA[:cap(noneA)] {
			noneA[:cap(noneA)][bidder] = !noneWant[bidder%len(noneWant)]
		}
		if !same(listsOf(handed), listsOf(m)) || !slices.Equal(cost, at) {
			t.Errorf("of %v, %v: an answer shares memory with what was handed in", m, at)
		}
		for _, l := range append(listsOf(handed), cost) {
			spoil(l, 98)
		}
		if !same(b, want) || !slices.Equal(noneB, noneWant) {
			t.Errorf("of %v, %v: two answers share memory, or what was handed in is kept", m, at)
		}
		allTold(t, m, at)
	})
}

// R4: the same list handed in several times is as several.
func TestOneListForMany(t *testing.T) {
	l := []int{1, 0, 2}
	is(t, l, l, []int{0, 1, 2}, true, 0)
	allTold(t, api.Market{Reserves: l, Bids: [][]int{l, l, l}, Order: l}, l)
	if !slices.Equal(l, []int{1, 0, 2}) {
		t.Error(l)
	}
}

// R5: what was asked before, well or wrong, is nothing to what is asked now.
func TestNothingIsKept(t *testing.T) {
	markets(func(m api.Market, at []int) {
		demands.Of(slices.Repeat([]int{most}, 8), make([]int, 8))
		demands.Of(make([]int, 9), make([]int, 8))
		allTold(t, m, at)
		demands.All(plain(8, slices.Repeat([]int{most}, 8), 8), make([]int, 8))
		demands.All(plain(9, nil, 8), make([]int, 8))
		for _, bid := range m.Bids {
			asTold(t, bid, at)
		}
	})
}

// R1: long lists, which may not be.
func TestLongLists(t *testing.T) {
	long := make([]int, 100000)
	mayNotBe(t, long, []int{0})
	mayNotBe(t, []int{0}, long)
	mayNotBe(t, nil, long)
	mayNotBe(t, long, long)
	allMayNotBe(t, plain(1, nil, 100000), long)
	allMayNotBe(t, plain(1, long, 100000), long)
	allMayNotBe(t, plain(1, long, 1), []int{0})
	allMayNotBe(t, plain(100000, nil, 1), []int{0})
	allMayNotBe(t, plain(1, nil, 1), long)
	allMayNotBe(t, api.Market{Reserves: []int{0}, Bids: [][]int{{0}}, Order: long}, []int{0})
}

// numbersOf is a number of each byte: small ones, and such as stand about the most, and about twice that.
func numbersOf(b []byte) []int {
	l := []int{}
	for _, n := range b {
		switch {
		case n >= 100 && n < 128:
			l = append(l, most+int(n)-126)
		case n > 128 && n < 156:
			l = append(l, 2*most+int(n)-154)
		default:
			l = append(l, int(int8(n)))
		}
	}
	return l
}

// splitAt is what stands between these bytes.
func splitAt(b []byte, at byte) [][]byte {
	parts := [][]byte{{}}
	for _, n := range b {
		if n == at {
			parts = append(parts, []byte{})
		} else {
			last := len(parts) - 1
			parts[last] = append(parts[last], n)
		}
	}
	return parts
}

// R1, R2, P12.1, P12.2: any lists; the byte 128 parts the bids. An order of as many as there are bids goes with them, too.
func FuzzAll(f *testing.F) {
	f.Add([]byte{1, 0}, []byte{5, 3, 128, 5, 4, 128, 128, 0, 0}, []byte{0, 1}, []byte{3, 2, 1, 0})
	f.Add([]byte{6, 4}, []byte{5, 3}, []byte{0, 0}, []byte{0})
	f.Add([]byte{154, 155}, []byte{126, 127}, []byte{126, 0}, []byte{0})
	f.Add([]byte{154}, []byte{126}, []byte{126}, []byte{0})
	f.Add([]byte{255}, []byte{5}, []byte{1}, []byte{0})
	f.Add([]byte{}, []byte{}, []byte{}, []byte{})
	f.Fuzz(func(t *testing.T, cost, all, least, stand []byte) {
		at, m := numbersOf(cost), api.Market{Reserves: numbersOf(least), Order: numbersOf(stand)}
		for _, one := range splitAt(all, 128) {
			m.Bids = append(m.Bids, numbersOf(one))
			check(t, numbersOf(one), at)
		}
		checkAll(t, m, at)
		m.Order = upTo(len(m.Bids))
		checkAll(t, m, at)
		m.Reserves = make([]int, len(at))
		checkAll(t, m, at)
	})
}
