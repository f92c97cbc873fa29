package rises_test

import (
	"math"
	"math/bits"
	"slices"
	"testing"

	"salesroom/api"
	"salesroom/matchings"
	"salesroom/rises"
	"salesroom/weights"
)

// most is a number that is a limit of what is bid, and of a reserve; twice that is one of what an item may cost.
const most = api.MaxPrice

// far are numbers far off all that may be: of what is bid, of reserves, of prices.
var far = []int{2*most + 1, 2*most + 2, 3 * most, 4 * most, 1 << 31, 1 << 32, 1<<32 + 1, 1 << 62, math.MaxInt - 1, math.MaxInt, -1, -2, -most, -2 * most, -1 << 31, -1 << 32, -1 << 62, math.MinInt + 1, math.MinInt}

// edges are the numbers at which what may be bid changes.
var edges = []int{0, 1, most - 1, most}

// upTo is 0, 1 .., so many.
func upTo(n int) []int {
	l := []int{}
	for i := range n {
		l = append(l, i)
	}
	return l
}

// bidMayBe is whether a bid may be for so many items, told by the words alone; an empty one is none.
func bidMayBe(bid []int, items int) bool {
	return len(bid) == 0 || len(bid) == items && slices.Min(bid) >= 0 && slices.Max(bid) <= 1000000
}

// marketMayBe is whether a market may be, told by the words alone.
func marketMayBe(m api.Market) bool {
	for _, bid := range m.Bids {
		if !bidMayBe(bid, len(m.Reserves)) {
			return false
		}
	}
	return len(m.Reserves) >= 1 && len(m.Reserves) <= 8 && bidMayBe(m.Reserves, len(m.Reserves)) &&
		len(m.Bids) >= 1 && len(m.Bids) <= 8 &&
		slices.Equal(slices.Sorted(slices.Values(m.Order)), upTo(len(m.Bids)))
}

// pricesMayBe is whether prices may be, of items that cost these at least, told by the words alone.
func pricesMayBe(at, least []int) bool {
	for item := range least {
		if len(at) != len(least) || at[item] < least[item] || at[item] > 2000000 {
			return false
		}
	}
	return len(at) == len(least)
}

// gainOf is what a bid has, at prices, by the best item that is in no set of these (as bits), or by none.
func gainOf(bid, at []int, set uint) int {
	gain := 0
	for item := range bid {
		if set>>item&1 == 0 {
			gain = max(gain, bid[item]-at[item])
		}
	}
	return gain
}

// would are the items by which a bid has the most at prices, as bits; and how much that is.
func would(bid, at []int) (set uint, gain int) {
	gain = gainOf(bid, at, 0)
	for item := range bid {
		if bid[item]-at[item] == gain {
			set |= 1 << item
		}
	}
	return set, gain
}

// listOf is a set as a list.
func listOf(set uint) []int {
	l := []int{}
	for item := range 8 {
		if set>>item&1 == 1 {
			l = append(l, item)
		}
	}
	return l
}

// setsOf are all sets of so many items, those of fewer ahead of those of more, and of as many the first list first.
func setsOf(items int) []uint {
	all := []uint{}
	for set := range uint(1) << items {
		all = append(all, set)
	}
	slices.SortFunc(all, func(a, b uint) int {
		if few := bits.OnesCount(a) - bits.OnesCount(b); few != 0 {
			return few
		}
		return slices.Compare(listOf(a), listOf(b))
	})
	return all
}

// sets are the sets of 0, 1 .. 8 items.
var sets = [][]uint{setsOf(0), setsOf(1), setsOf(2), setsOf(3), setsOf(4), setsOf(5), setsOf(6), setsOf(7), setsOf(8)}

// wants are the sets of those who must have at prices, as they would have these; and their bids.
func wants(m api.Market, at []int) (all []uint, bids [][]int) {
	for _, bid := range m.Bids {
		if set, gain := would(bid, at); gain > 0 {
			all, bids = append(all, set), append(bids, bid)
		}
	}
	return all, bids
}

// within is how many of these sets have nothing but what that one has.
func within(all []uint, set uint) int {
	many := 0
	for _, one := range all {
		if one&^set == 0 {
			many++
		}
	}
	return many
}

// tooWanted is the set that too many want of those who want all of these; 0: there is none.
func tooWanted(all []uint, items int) uint {
	for _, set := range sets[items] {
		if within(all, set) > bits.OnesCount(set) {
			return set
		}
	}
	return 0
}

// told is what Step has to answer, told by the words alone.
func told(m api.Market, at []int) ([]int, bool) {
	all, bids := wants(m, at)
	set := tooWanted(all, len(at))
	if set == 0 {
		return at, false
	}
	by := math.MaxInt
	for i, bid := range bids {
		if all[i]&^set == 0 {
			by = min(by, gainOf(bid, at, 0)-gainOf(bid, at, set))
		}
	}
	higher := slices.Clone(at)
	for _, item := range listOf(set) {
		higher[item] += by
	}
	return higher, true
}

// asFar is how far so many steps go from the reserves on, and whether there is none any more then.
func asFar(m api.Market, steps int) (at []int, ends bool) {
	at = m.Reserves
	for range steps {
		higher, is := told(m, at)
		if !is {
			return at, true
		}
		at = higher
	}
	return at, false
}

// steps fails unless Step is that.
func steps(t *testing.T, m api.Market, at, want []int, is bool) {
	t.Helper()
	if l, i, e := rises.Step(m, at); e != api.OK || !slices.Equal(l, want) || i != is {
		t.Errorf("Step(%v, %v) = %v, %v, %d, want %v, %v", m, at, l, i, e, want, is)
	}
}

// asTold fails unless Step answers what the words tell.
func asTold(t *testing.T, m api.Market, at []int) {
	t.Helper()
	want, is := told(m, at)
	steps(t, m, at, want, is)
}

// least fails unless Least is that.
func least(t *testing.T, m api.Market, want []int) {
	t.Helper()
	if l, e := rises.Least(m); e != api.OK || !slices.Equal(l, want) {
		t.Errorf("Least(%v) = %v, %d, want %v", m, l, e, want)
	}
}

// leastAsTold fails unless Least answers what the words tell: step by step, where these are not too many to be waited for.
func leastAsTold(t *testing.T, m api.Market) {
	t.Helper()
	if want, ends := asFar(m, 500); ends {
		least(t, m, want)
	}
}

// mayNotBe fails unless Step tells that these may not be, and nothing else.
func mayNotBe(t *testing.T, m api.Market, at []int) {
	t.Helper()
	if l, is, e := rises.Step(m, at); e != api.ErrArg || len(l) != 0 || is {
		t.Errorf("Step(%v, %v) = %v, %v, %d, want ErrArg", m, at, l, is, e)
	}
}

// marketMayNotBe fails unless both tell that this market may not be, and nothing else.
func marketMayNotBe(t *testing.T, m api.Market, at []int) {
	t.Helper()
	mayNotBe(t, m, at)
	if l, e := rises.Least(m); e != api.ErrArg || len(l) != 0 {
		t.Errorf("Least(%v) = %v, %d, want ErrArg", m, l, e)
	}
}

// lists calls f with all lists of so many of these numbers.
func lists(many int, numbers []int, f func(l []int)) {
	of := 1
	for range many {
		of *= len(numbers)
	}
	for which := range of {
		l := []int{}
		for range many {
			l = append(l, numbers[which%len(numbers)])
			which /= len(numbers)
		}
		f(l)
	}
}

// bidsOf are all bids of so many of these numbers, and none.
func bidsOf(items int, numbers []int) [][]int {
	bids := [][]int{nil}
	lists(items, numbers, func(l []int) { bids = append(bids, l) })
	return bids
}

// small calls f with all markets of so many bidders and items by few numbers.
func small(bidders, items, numbers int, f func(m api.Market)) {
	bids := bidsOf(items, upTo(numbers))
	lists(items, []int{0, 1}, func(reserves []int) {
		lists(bidders, upTo(len(bids)), func(which []int) {
			m := api.Market{Reserves: reserves, Order: upTo(bidders)}
			for _, w := range which {
				m.Bids = append(m.Bids, bids[w])
			}
			f(m)
		})
	})
}

// smalls calls f with all markets of few bidders and items by few numbers.
func smalls(f func(m api.Market)) {
	small(1, 1, 5, f)
	small(2, 1, 5, f)
	small(3, 1, 5, f)
	small(1, 2, 4, f)
	small(2, 2, 4, f)
	small(3, 2, 3, f)
	small(1, 3, 3, f)
	small(2, 3, 3, f)
}

// from calls f with all prices from the reserves up to most.
func from(m api.Market, most int, f func(at []int)) {
	lists(len(m.Reserves), upTo(most+1), func(at []int) {
		if pricesMayBe(at, m.Reserves) {
			f(at)
		}
	})
}

// draw is numbers that hang on the seed alone.
type draw int

func (d *draw) below(n int) int {
	*d = (*d*1103515245 + 12345) & math.MaxInt32
	return int(*d>>8) % n
}

// list is so many numbers below n.
func (d *draw) list(many, n int) []int {
	l := []int{}
	for range many {
		l = append(l, d.below(n))
	}
	return l
}

// of is so many of these numbers.
func (d *draw) of(many int, numbers []int) []int {
	l := []int{}
	for range many {
		l = append(l, numbers[d.below(len(numbers))])
	}
	return l
}

// bid is a list of numbers of each kind: few, some, many, those at the edges, and about a number.
func (d *draw) bid(items, kind int) []int {
	switch kind % 5 {
	case 0:
		return d.list(items, 3)
	case 1:
		return d.list(items, 30)
	case 2:
		return d.list(items, most+1)
	case 3:
		return d.of(items, edges)
	}
	l := d.list(items, 3)
	for i := range l {
		l[i] += 6
	}
	return l
}

// market is one of each kind and size, some of whose bidders have no bid, and some of whose items cost nothing at least.
func market(bidders, items, seed int) api.Market {
	d := draw(seed*104729 + bidders*977 + items)
	m := api.Market{Reserves: make([]int, items)}
	if seed%2 == 0 {
		m.Reserves = d.bid(items, seed)
		for item := range m.Reserves {
			m.Reserves[item] /= 1 + d.below(3)
		}
	}
	for bidder := range bidders {
		bid := d.bid(items, seed)
		if d.below(12) == 0 {
			bid = nil
		}
		m.Bids = append(m.Bids, bid)
		m.Order = slices.Insert(m.Order, d.below(bidder+1), bidder)
	}
	return m
}

// drawn calls f with so many markets of each size.
func drawn(seeds int, f func(m api.Market)) {
	for bidders := 1; bidders <= 8; bidders++ {
		for items := 1; items <= 8; items++ {
			for seed := range seeds {
				f(market(bidders, items, seed))
			}
		}
	}
}

// priced calls f with markets of each size, at prices: the reserves, each step from these on, such as nobody bids, and others.
func priced(f func(m api.Market, at []int)) {
	drawn(10, func(m api.Market) {
		for steps := range 12 {
			at, ends := asFar(m, steps)
			f(m, at)
			if ends {
				break
			}
		}
		f(m, slices.Repeat([]int{2 * most}, len(m.Reserves)))
		d := draw(len(m.Bids) + m.Reserves[0])
		for kind := range 6 {
			at := d.bid(len(m.Reserves), kind)
			for item, reserve := range m.Reserves {
				at[item] = max(at[item]*(1+kind%2), reserve)
			}
			f(m, at)
		}
	})
}

// plain is a market of so many bidders, all with that bid, at no reserves.
func plain(bidders int, bid []int, items int) api.Market {
	return api.Market{Reserves: make([]int, items), Bids: slices.Repeat([][]int{bid}, bidders), Order: upTo(bidders)}
}

// of is a market of these reserves and bids.
func of(reserves []int, bids ...[]int) api.Market {
	return api.Market{Reserves: reserves, Bids: bids, Order: upTo(len(bids))}
}

// The chapter's examples.
func TestExamples(t *testing.T) {
	m, n := of([]int{2}, []int{9}, []int{5}), of([]int{0, 0}, []int{4, 4}, []int{4, 4}, []int{3, 0})
	steps(t, m, []int{2}, []int{5}, true)
	steps(t, m, []int{5}, []int{5}, false)
	least(t, m, []int{5})
	least(t, n, []int{3, 3})
}

// P13.1: Step against the words: of each small market at all small prices, and of each size.
func TestStepAgainstTheWords(t *testing.T) {
	smalls(func(m api.Market) {
		from(m, 3, func(at []int) { asTold(t, m, at) })
	})
	priced(func(m api.Market, at []int) { asTold(t, m, at) })
}

// P13.1: a step goes up to where who has the least by it has nothing; one item, and several that are as good.
func TestUpToNothing(t *testing.T) {
	steps(t, of([]int{0}, []int{4}, []int{7}), []int{0}, []int{4}, true)
	steps(t, of([]int{0}, []int{7}, []int{4}), []int{3}, []int{4}, true)
	steps(t, of([]int{0}, []int{7}, []int{4}), []int{4}, []int{4}, false) // none is as good to who bids 4
	steps(t, of([]int{0}, []int{7}, []int{4}, []int{6}), []int{4}, []int{6}, true)
	steps(t, of([]int{0, 0}, []int{4, 5}, []int{4, 5}, []int{4, 5}), []int{0, 1}, []int{4, 5}, true)
	steps(t, of([]int{0, 0}, []int{4, 5}, []int{3, 4}, []int{4, 5}), []int{0, 1}, []int{3, 4}, true)
}

// P13.1: or to where who has the least more by it than by another item would have that one as well.
func TestUpToAnotherItem(t *testing.T) {
	steps(t, of([]int{0, 0}, []int{9, 5}, []int{9, 0}), []int{0, 0}, []int{4, 0}, true)
	steps(t, of([]int{0, 0}, []int{9, 0}, []int{9, 5}), []int{0, 0}, []int{4, 0}, true)
	steps(t, of([]int{0, 0}, []int{9, 5}, []int{9, 6}), []int{0, 0}, []int{3, 0}, true)
	steps(t, of([]int{0, 0}, []int{9, 5}, []int{9, 6}), []int{1, 3}, []int{6, 3}, true)                // what that one costs, too
	steps(t, of([]int{0, 0, 0}, []int{9, 5, 7}, []int{9, 3, 4}), []int{0, 0, 0}, []int{2, 0, 0}, true) // the best of the others
	steps(t, of([]int{0, 0, 0}, []int{7, 9, 5}, []int{4, 9, 3}), []int{0, 0, 0}, []int{0, 2, 0}, true)
}

// P13.1: by the best of the others one may lose: that is no better than nothing.
func TestAnotherItemIsTooDear(t *testing.T) {
	for _, dear := range []int{1, 2, 5, most, 2*most - 1} {
		steps(t, of([]int{0, 0}, []int{9, 1}, []int{8, 1}), []int{0, 1 + dear}, []int{8, 1 + dear}, true)
	}
	steps(t, of([]int{0, 0}, []int{9, 1}, []int{8, 1}), []int{0, 1}, []int{8, 1}, true)
	steps(t, of([]int{0, 0}, []int{9, 2}, []int{8, 2}), []int{0, 1}, []int{7, 1}, true)
}

// P13.1: who would have another item as well, or to whom none is as good, is nothing to how far a step goes.
func TestOthersAreNothingToAStep(t *testing.T) {
	two := [][]int{{9, 0}, {9, 0}}
	for _, other := range [][]int{nil, {0, 0}, {9, 9}, {3, 3}, {1, 1}, {0, 1}, {0, 9}, {2, 3}} {
		for place := range 3 {
			m := of([]int{0, 0}, slices.Insert(slices.Clone(two), place, other)...)
			steps(t, m, []int{0, 0}, []int{9, 0}, true)
		}
	}
	steps(t, of([]int{0}, []int{9}, []int{9}, []int{1}), []int{0}, []int{1}, true)
	steps(t, of([]int{0}, []int{9}, []int{9}, []int{1}), []int{1}, []int{9}, true)
	steps(t, of([]int{0}, []int{9}, []int{9}, []int{1}), []int{2}, []int{9}, true)
}

// P13.1: of several sets that too many want that of the fewest items, and of these the first one, becomes dearer; nothing else does.
func TestWhichSet(t *testing.T) {
	a, b, both := []int{5, 0, 0}, []int{0, 6, 0}, []int{4, 4, 0}
	none := []int{0, 0, 0}
	steps(t, of(none, b, b, a, a), none, []int{5, 0, 0}, true)
	steps(t, of(none, b, b, a), none, []int{0, 6, 0}, true)
	steps(t, of(none, both, both, both), none, []int{4, 4, 0}, true)
	steps(t, of(none, both, both, both, b, b), none, []int{0, 6, 0}, true)
	steps(t, of(none, both, a, b), none, []int{4, 4, 0}, true)
	steps(t, of(none, both, a), none, none, false)
	last := []int{0, 3, 3}
	steps(t, of(none, last, last, last, both, both, both), none, []int{4, 4, 0}, true)
	steps(t, of(none, last, last, last, both, both), none, []int{0, 3, 3}, true)
}

// P13.1: where none of the items need be dearer, the prices are as they were; they need not be low for that.
func TestNoStep(t *testing.T) {
	for items := 1; items <= 8; items++ {
		at := slices.Repeat([]int{2 * most}, items)
		steps(t, plain(8, slices.Repeat([]int{most}, items), items), at, at, false)
		at = slices.Repeat([]int{most}, items)
		steps(t, plain(8, slices.Repeat([]int{most}, items), items), at, at, false)
		at = make([]int, items)
		steps(t, plain(8, nil, items), at, at, false)
		steps(t, plain(8, []int{}, items), at, at, false)
		steps(t, plain(8, make([]int, items), items), at, at, false)
		steps(t, plain(items, slices.Repeat([]int{1}, items), items), at, at, false)
		steps(t, plain(1, slices.Repeat([]int{most}, items), items), at, at, false)
	}
}

// P13.1, P13.2: as many bidders and items as there may be, with the most to be bid.
func TestTheMostThereMayBe(t *testing.T) {
	for items := 1; items <= 8; items++ {
		for bidders := 1; bidders <= 8; bidders++ {
			for _, n := range edges {
				for _, reserve := range edges {
					m := plain(bidders, slices.Repeat([]int{n}, items), items)
					m.Reserves = slices.Repeat([]int{reserve}, items)
					asTold(t, m, m.Reserves)
					want := m.Reserves
					if bidders > items && n > reserve {
						want = slices.Repeat([]int{n}, items)
					}
					least(t, m, want)
				}
			}
		}
	}
}

// P13.1: prices from its reserve to twice the most of each item: those may be; one less, or one more, may not, at each place.
func TestPricesThatMayNotBe(t *testing.T) {
	for items := 1; items <= 8; items++ {
		for _, reserve := range edges {
			m := plain(2, slices.Repeat([]int{most}, items), items)
			m.Reserves = slices.Repeat([]int{reserve}, items)
			for item := range items {
				for _, price := range append([]int{0, 1, reserve - 1, reserve, reserve + 1, most, 2*most - 1, 2 * most}, far...) {
					at := slices.Clone(m.Reserves)
					at[item] = price
					if price < reserve || price > 2*most {
						mayNotBe(t, m, at)
					} else {
						asTold(t, m, at)
					}
				}
			}
		}
	}
	mayNotBe(t, of([]int{0, 5}, nil), []int{5, 0}) // each has its own
	steps(t, of([]int{5, 0}, nil), []int{5, 0}, []int{5, 0}, false)
}

// P13.1: prices that are not as many as the items, however these may be.
func TestSoManyPrices(t *testing.T) {
	for items := 1; items <= 8; items++ {
		for many := range 20 {
			for _, bid := range [][]int{nil, slices.Repeat([]int{3}, items)} {
				m := plain(2, bid, items)
				if many != items {
					mayNotBe(t, m, make([]int, many))
				} else {
					asTold(t, m, make([]int, many))
				}
			}
		}
		mayNotBe(t, plain(2, nil, items), nil)
	}
}

// P13.1, P13.2: markets that may not be: of no items or bidders, or too many; of a reserve, or a bid, or an order that may not be.
func TestMarketsThatMayNotBe(t *testing.T) {
	marketMayNotBe(t, api.Market{}, nil)
	marketMayNotBe(t, api.Market{}, []int{0})
	for _, items := range []int{0, 9, 10, 256, 257} {
		marketMayNotBe(t, plain(1, nil, items), make([]int, items))
		marketMayNotBe(t, plain(2, make([]int, items), items), make([]int, items))
		marketMayNotBe(t, plain(1, nil, items), make([]int, 8))
	}
	for _, bidders := range []int{0, 9, 10, 256, 257} {
		marketMayNotBe(t, plain(bidders, []int{1, 1}, 2), []int{0, 0})
		marketMayNotBe(t, plain(bidders, nil, 2), []int{0, 0})
	}
	for _, n := range append([]int{most + 1, 2 * most}, far...) {
		for item := range 3 {
			m := plain(2, []int{1, 2, 3}, 3)
			m.Reserves[item] = n
			marketMayNotBe(t, m, m.Reserves)
			marketMayNotBe(t, m, []int{0, 0, 0})
			bid := []int{1, 2, 3}
			bid[item] = n
			marketMayNotBe(t, of([]int{0, 0, 0}, []int{1, 2, 3}, bid), []int{0, 0, 0})
			marketMayNotBe(t, of([]int{0, 0, 0}, bid, nil), []int{5, 5, 5})
		}
	}
	for many := range 20 {
		if many > 0 && many != 3 {
			m := plain(2, []int{1, 2, 3}, 3)
			m.Bids[1] = make([]int, many)
			marketMayNotBe(t, m, []int{0, 0, 0})
		}
	}
	for _, order := range [][]int{nil, {0}, {1}, {0, 0}, {1, 1}, {0, 2}, {-1, 0}, {1, 0, 0}, {0, 1, 2}, {0, 1, 0}} {
		m := plain(2, []int{1}, 1)
		m.Order = order
		marketMayNotBe(t, m, []int{0})
	}
}

// R2: a market and prices that both may not be.
func TestAllWrong(t *testing.T) {
	marketMayNotBe(t, api.Market{}, []int{-1})
	marketMayNotBe(t, plain(9, []int{-1}, 1), []int{2*most + 1, 0})
	marketMayNotBe(t, api.Market{Reserves: []int{-1}, Bids: [][]int{{most + 1}}}, []int{-2})
}

// P13.2: Least against the words: of each small market, and of each size.
func TestLeastAgainstTheWords(t *testing.T) {
	check := func(m api.Market) { leastAsTold(t, m) }
	smalls(check)
	drawn(60, check)
}

// P13.2: each step of Step from the reserves on, one behind the other, comes to what Least tells.
func TestLeastIsStepByStep(t *testing.T) {
	drawn(15, func(m api.Market) {
		at, is, e := rises.Step(m, m.Reserves)
		for many := 0; is && many < 500; many++ {
			at, is, e = rises.Step(m, at)
		}
		if e != api.OK {
			t.Errorf("Step(%v, %v) = %d", m, at, e)
		}
		if !is {
			least(t, m, at)
		}
	})
}

// P13.2: what nobody bids more for than its reserve costs that; one who bids alone pays no more.
func TestAtTheReserve(t *testing.T) {
	for items := 1; items <= 8; items++ {
		for _, reserve := range edges {
			m := plain(8, nil, items)
			m.Reserves = slices.Repeat([]int{reserve}, items)
			least(t, m, m.Reserves)
			m.Bids[3] = slices.Repeat([]int{most}, items)
			least(t, m, m.Reserves)
			m.Bids = slices.Repeat([][]int{m.Reserves}, 8) // as much, and no more
			least(t, m, m.Reserves)
		}
	}
}

// P13.2: of one item the price is what the last but one bids, if that is more than its reserve.
func TestOneItem(t *testing.T) {
	for bidders := 1; bidders <= 8; bidders++ {
		for seed := range 60 {
			m := market(bidders, 1, seed)
			said := []int{0, 0}
			for _, bid := range m.Bids {
				said = append(said, bid...)
			}
			slices.Sort(said)
			least(t, m, []int{max(said[len(said)-2], m.Reserves[0])})
		}
	}
}

// P13.2, P13.1: in which order bidders stand is nothing to prices, nor how they are numbered.
func TestOrderIsNothingToPrices(t *testing.T) {
	drawn(10, func(m api.Market) {
		want, _ := rises.Least(m)
		higher, is, _ := rises.Step(m, m.Reserves)
		slices.Reverse(m.Order)
		least(t, m, want)
		steps(t, m, m.Reserves, higher, is)
		slices.Reverse(m.Bids)
		least(t, m, want)
		steps(t, m, m.Reserves, higher, is)
	})
}

// P13.2, R1: two sets that outbid each other by 1 a million times: there Least answers at once, what each of these steps comes to.
func TestOutbidByOne(t *testing.T) {
	for items := 2; items <= 8; items++ {
		for _, top := range []int{4, 50, most} {
			m := of(make([]int, items))
			for _, bid := range [][]int{{top, top}, {top, 0}, {top - 1, top}, {0, top}} {
				m.Bids = append(m.Bids, append(slices.Clone(bid), make([]int, items-2)...))
			}
			m.Order = upTo(4)
			want := append([]int{top, top}, make([]int, items-2)...)
			for range 300 {
				least(t, m, want)
			}
			leastAsTold(t, m)
			at := make([]int, items)
			asTold(t, m, at)
			at[1] = 1
			asTold(t, m, at)
		}
	}
}

// P13.3: a step makes prices higher, and none lower; just that much that there may be one more from there.
func TestStepsRise(t *testing.T) {
	priced(func(m api.Market, at []int) {
		higher, is, e := rises.Step(m, at)
		if e != api.OK || slices.Equal(higher, at) == is {
			t.Errorf("Step(%v, %v) = %v, %v, %d", m, at, higher, is, e)
		}
		for item := range at {
			if higher[item] < at[item] || higher[item] > at[item] && higher[item] > most {
				t.Errorf("Step(%v, %v) = %v", m, at, higher)
			}
		}
	})
}

// P13.3: who must have at prices must at those ahead of the step, too.
func TestWhoMustHaveMustAtLower(t *testing.T) {
	priced(func(m api.Market, at []int) {
		higher, _, _ := rises.Step(m, at)
		for _, bid := range m.Bids {
			_, before := would(bid, at)
			_, behind := would(bid, higher)
			if behind > 0 && before == 0 {
				t.Errorf("%v: %v need not at %v, but must at %v", m, bid, at, higher)
			}
		}
	})
}

// P13.3: at its end there is no step any more.
func TestItEnds(t *testing.T) {
	check := func(m api.Market) {
		at, e := rises.Least(m)
		if e != api.OK || !pricesMayBe(at, m.Reserves) {
			t.Fatalf("Least(%v) = %v, %d", m, at, e)
		}
		steps(t, m, at, at, false)
	}
	smalls(check)
	drawn(60, check)
}

// P13.3: at its end all who must have can, each what it would have.
func TestAllWhoMustHaveCan(t *testing.T) {
	check := func(m api.Market) {
		at, _ := rises.Least(m)
		g, must := [][]int{}, []int{}
		for bidder, bid := range m.Bids {
			set, gain := would(bid, at)
			g = append(g, listOf(set))
			if gain > 0 {
				must = append(must, bidder)
			}
		}
		if can, e := matchings.All(g, len(at), must); !can || e != api.OK {
			t.Errorf("Least(%v) = %v, but these can't all have: %v, %v", m, at, g, must)
		}
	}
	smalls(check)
	drawn(60, check)
}

// P13.3: no items that cost more than their reserves would be had by too few, those told to whom none is as good.
func TestNothingDearIsLeft(t *testing.T) {
	check := func(m api.Market) {
		at, _ := rises.Least(m)
		dear := uint(0)
		for item := range at {
			if at[item] > m.Reserves[item] {
				dear |= 1 << item
			}
		}
		for _, set := range sets[len(at)] {
			many := 0
			for _, bid := range m.Bids {
				if wants, _ := would(bid, at); wants&set != 0 {
					many++
				}
			}
			if set&^dear == 0 && many < bits.OnesCount(set) {
				t.Errorf("Least(%v) = %v, but %v would be had by %d", m, at, listOf(set), many)
			}
		}
	}
	smalls(check)
	drawn(30, check)
}

// P13.2, P13.3: no prices from the reserves on at which all who must have can are lower anywhere.
func TestNoneIsLower(t *testing.T) {
	check := func(m api.Market) {
		low, _ := rises.Least(m)
		from(m, 4, func(at []int) {
			if all, _ := wants(m, at); tooWanted(all, len(at)) != 0 {
				return
			}
			for item := range at {
				if at[item] < low[item] {
					t.Errorf("Least(%v) = %v, but %v do", m, low, at)
				}
			}
		})
	}
	small(3, 1, 5, check)
	small(2, 2, 4, check)
	small(3, 2, 3, check)
	small(2, 3, 3, check)
}

// P13.2: an item costs, above its reserve, what all together would gain by one more of it.
func TestWhatOneMoreWouldGain(t *testing.T) {
	drawn(40, func(m api.Market) {
		items := len(m.Reserves)
		if items == 8 {
			return
		}
		at, _ := rises.Least(m)
		gains := func(one int) (g [][]int) {
			for _, bid := range m.Bids {
				l := []int{}
				for _, item := range append(upTo(items), one) {
					if item != api.None && len(bid) > 0 {
						l = append(l, bid[item]-m.Reserves[item])
					} else {
						l = append(l, -1)
					}
				}
				g = append(g, l)
			}
			return g
		}
		best, _ := weights.Best(gains(api.None), items+1)
		for item := range at {
			if more, e := weights.Best(gains(item), items+1); e != api.OK || more-best != at[item]-m.Reserves[item] {
				t.Errorf("Least(%v) = %v, but by one more of %d they gain %d, not %d", m, at, item, more, best)
			}
		}
	})
}

// P13.2: who says more of all items makes no price lower, nor does one more bidder, nor a higher reserve.
func TestMoreMakesNoneLower(t *testing.T) {
	drawn(10, func(m api.Market) {
		at, _ := rises.Least(m)
		for bidder, bid := range m.Bids {
			n := clone(m)
			n.Bids[bidder] = nil
			if l, e := rises.Least(n); e != api.OK || !noneLower(at, l) {
				t.Errorf("Least(%v) = %v, but Least(%v) = %v, %d", m, at, n, l, e)
			}
			if len(bid) == 0 || slices.Max(bid) > most-3 {
				continue
			}
			n.Bids[bidder] = slices.Clone(bid)
			for item := range bid {
				n.Bids[bidder][item] += 3
			}
			if l, e := rises.Least(n); e != api.OK || !noneLower(l, at) {
				t.Errorf("Least(%v) = %v, but Least(%v) = %v, %d", m, at, n, l, e)
			}
		}
		for item := range at {
			n := clone(m)
			n.Reserves[item] = min(most, n.Reserves[item]+2)
			if l, e := rises.Least(n); e != api.OK || !noneLower(l, at) {
				t.Errorf("Least(%v) = %v, but Least(%v) = %v, %d", m, at, n, l, e)
			}
		}
	})
}

// noneLower is whether none of these prices is lower than the other ones.
func noneLower(at, than []int) bool {
	for item := range at {
		if at[item] < than[item] {
			return false
		}
	}
	return true
}

// roomy is a list with numbers in its spare room.
func roomy(l []int) []int {
	return append(slices.Clone(l), 91, 92, 93)[:len(l)]
}

// roomyMarket is a market with more in the spare room of all of its lists.
func roomyMarket(m api.Market) api.Market {
	bids := [][]int{}
	for _, bid := range m.Bids {
		bids = append(bids, roomy(bid))
	}
	bids = append(bids, []int{77}, []int{78})[:len(m.Bids)]
	return api.Market{Reserves: roomy(m.Reserves), Bids: bids, Order: roomy(m.Order)}
}

// whole are all lists of a market, spare room too, as they stand now.
func whole(m api.Market) [][]int {
	l := [][]int{slices.Clone(m.Reserves[:cap(m.Reserves)]), slices.Clone(m.Order[:cap(m.Order)])}
	for _, bid := range m.Bids[:cap(m.Bids)] {
		l = append(l, slices.Clone(bid[:cap(bid)]))
	}
	return l
}

// same is whether two lists of lists are; an empty list and none are the same.
func same(a, b [][]int) bool {
	return slices.EqualFunc(a, b, slices.Equal[[]int])
}

// R4: no call changes what it is handed, spare room neither.
func TestNothingIsChanged(t *testing.T) {
	priced(func(one api.Market, at []int) {
		m, p := roomyMarket(one), roomy(at)
		before, cost := whole(m), slices.Clone(p[:cap(p)])
		for _, q := range [][]int{p, p[:len(p)-1], p[:len(p)+1], nil, m.Reserves} {
			rises.Step(m, q)
		}
		rises.Least(m)
		if !same(whole(m), before) || !slices.Equal(p[:cap(p)], cost) {
			t.Errorf("%v, %v was %v, %v", whole(m), p[:cap(p)], before, cost)
		}
	})
}

// R4: spare room is not part of what is handed in; an empty bid is as none.
func TestSpareRoomIsNotRead(t *testing.T) {
	m := api.Market{Reserves: []int{0, 0, -1}[:2], Bids: [][]int{[]int{5, 3, 9}[:2], []int{7, 7}[:0], []int{9, 0, 0}[:2], {-1}}[:3], Order: []int{1, 0, 2, 0}[:3]}
	steps(t, m, []int{1, 0, -1}[:2], []int{2, 0}, true)
	least(t, m, []int{2, 0})
	mayNotBe(t, m, []int{1, 0}[:1])
	mayNotBe(t, m, []int{1, 0}[:0])
	priced(func(m api.Market, at []int) { asTold(t, roomyMarket(m), roomy(at)) })
	drawn(10, func(m api.Market) { leastAsTold(t, roomyMarket(m)) })
}

// spoil writes n over all of l, spare room too.
func spoil(l []int, n int) {
	l = l[:cap(l)]
	for i := range l {
		l[i] = n
	}
}

// clone is the same market in memory of its own.
func clone(m api.Market) api.Market {
	bids := [][]int{}
	for _, bid := range m.Bids {
		bids = append(bids, slices.Clone(bid))
	}
	return api.Market{Reserves: slices.Clone(m.Reserves), Bids: bids, Order: slices.Clone(m.Order)}
}

// listsOf are all lists of a market.
func listsOf(m api.Market) [][]int {
	return append([][]int{m.Reserves, m.Order}, m.Bids...)
}

// R4, R5: an answer shares no memory with what was handed in, nor with another answer; nothing that was handed in, or answered before, is kept.
func TestAnswersShareNoMemory(t *testing.T) {
	priced(func(m api.Market, at []int) {
		want, is := told(m, at)
		low, _ := rises.Least(m)
		handed, cost := roomyMarket(m), roomy(at)
		a, _, _ := rises.Step(handed, cost)
		b, _, _ := rises.Step(handed, cost)
		c, _ := rises.Least(handed)
		d, _ := rises.Least(handed)
		spoil(a, 99)
		spoil(c, 98)
		if !same(whole(handed), whole(roomyMarket(m))) || !slices.Equal(cost[:cap(cost)], roomy(at)[:cap(cost)]) {
			t.Errorf("of %v, %v: an answer shares memory with what was handed in", m, at)
		}
		for _, l := range append(listsOf(handed), cost) {
			spoil(l, 97)
		}
		if !slices.Equal(b, want) || !slices.Equal(d, low) {
			t.Errorf("of %v, %v: two answers share memory, or what was handed in is kept", m, at)
		}
		steps(t, m, at, want, is)
	})
}

// R4: the same list handed in several times is as several.
func TestOneListForMany(t *testing.T) {
	l := []int{1, 0, 2}
	m := api.Market{Reserves: l, Bids: [][]int{l, l, l}, Order: l}
	steps(t, m, l, l, false)
	least(t, m, l)
	more := []int{2, 4}
	m = api.Market{Reserves: []int{0, 0}, Bids: [][]int{more, more, more}, Order: l}
	steps(t, m, []int{0, 2}, more, true)
	steps(t, m, more, more, false)
	least(t, m, more)
	if !slices.Equal(l, []int{1, 0, 2}) || !slices.Equal(more, []int{2, 4}) {
		t.Error(l, more)
	}
}

// R5: what was asked before, well or wrong, is nothing to what is asked now.
func TestNothingIsKept(t *testing.T) {
	priced(func(m api.Market, at []int) {
		rises.Least(plain(8, slices.Repeat([]int{most}, 8), 8))
		rises.Step(plain(9, nil, 8), make([]int, 8))
		asTold(t, m, at)
		rises.Step(plain(3, []int{most, 1}, 2), []int{0, 0})
		rises.Least(plain(8, nil, 9))
		asTold(t, m, at)
	})
}

// R1: long lists, which may not be.
func TestLongLists(t *testing.T) {
	long := make([]int, 100000)
	marketMayNotBe(t, plain(1, nil, 100000), long)
	marketMayNotBe(t, plain(1, long, 100000), long)
	marketMayNotBe(t, plain(1, long, 1), []int{0})
	marketMayNotBe(t, plain(100000, nil, 1), []int{0})
	marketMayNotBe(t, api.Market{Reserves: []int{0}, Bids: [][]int{{0}}, Order: long}, []int{0})
	mayNotBe(t, plain(1, nil, 1), long)
}

// numbersOf is a number of each byte: small ones, and such as stand about the most, and about twice that.
func numbersOf(b []byte) []int {
	l := []int{}
	for _, n := range b {
		switch {
		case n >= 100 && n < 128:
			l = append(l, most+int(n)-126)
		case n > 128 && n < 156:
			l = append(l, 2*most+int(n)-154)
		default:
			l = append(l, int(int8(n)))
		}
	}
	return l
}

// splitAt is what stands between these bytes.
func splitAt(b []byte, at byte) [][]byte {
	parts := [][]byte{{}}
	for _, n := range b {
		if n == at {
			parts = append(parts, []byte{})
		} else {
			last := len(parts) - 1
			parts[last] = append(parts[last], n)
		}
	}
	return parts
}

// checkAll holds both calls against the words, whatever comes in.
func checkAll(t *testing.T, m api.Market, at []int) {
	t.Helper()
	if !marketMayBe(m) {
		marketMayNotBe(t, m, at)
		return
	}
	if pricesMayBe(at, m.Reserves) {
		asTold(t, m, at)
	} else {
		mayNotBe(t, m, at)
	}
	leastAsTold(t, m)
}

// R1, R2, P13.1, P13.2: any lists; the byte 128 parts the bids. An order of as many as there are bids goes with them, too.
func FuzzAll(f *testing.F) {
	f.Add([]byte{0, 0}, []byte{4, 4, 128, 4, 4, 128, 3, 0}, []byte{0, 0}, []byte{2, 1, 0})
	f.Add([]byte{5}, []byte{9, 128, 5}, []byte{2}, []byte{0, 1})
	f.Add([]byte{154, 155}, []byte{126, 127}, []byte{126, 0}, []byte{0})
	f.Add([]byte{154}, []byte{126, 128, 125}, []byte{124}, []byte{0, 1})
	f.Add([]byte{255}, []byte{5}, []byte{1}, []byte{0})
	f.Add([]byte{}, []byte{}, []byte{}, []byte{})
	f.Fuzz(func(t *testing.T, cost, all, reserve, stand []byte) {
		at, m := numbersOf(cost), api.Market{Reserves: numbersOf(reserve), Order: numbersOf(stand)}
		for _, one := range splitAt(all, 128) {
			m.Bids = append(m.Bids, numbersOf(one))
		}
		checkAll(t, m, at)
		m.Order = upTo(len(m.Bids))
		checkAll(t, m, at)
		m.Reserves = make([]int, len(at))
		checkAll(t, m, at)
	})
}
