package payments_test

import (
	"math"
	"slices"
	"testing"

	"salesroom/api"
	"salesroom/firsts"
	"salesroom/markets"
	"salesroom/payments"
	"salesroom/rises"
	"salesroom/weights"
)

// most is a number that is a limit of what is bid, and of a reserve.
const most = api.MaxPrice

// none is no item.
const none = api.None

// far are numbers far off all that may be: of what is bid, of reserves, of bidders, of items.
var far = []int{most + 1, most + 2, 2 * most, 1 << 31, 1 << 32, 1<<32 + 1, 1 << 62, math.MaxInt - 1, math.MaxInt, -2, -3, -most, -2 * most, -1 << 31, -1 << 32, -1 << 62, math.MinInt + 1, math.MinInt}

// edges are the numbers at which what may be bid changes.
var edges = []int{0, 1, most - 1, most}

// upTo is 0, 1 .., so many.
func upTo(n int) []int {
	l := []int{}
	for i := range n {
		l = append(l, i)
	}
	return l
}

// downFrom is the same, the last one first.
func downFrom(n int) []int {
	l := upTo(n)
	slices.Reverse(l)
	return l
}

// bidMayBe is whether a bid may be for so many items, told by the words alone; an empty one is none.
func bidMayBe(bid []int, items int) bool {
	return len(bid) == 0 || len(bid) == items && slices.Min(bid) >= 0 && slices.Max(bid) <= 1000000
}

// marketMayBe is whether a market may be, told by the words alone.
func marketMayBe(m api.Market) bool {
	for _, bid := range m.Bids {
		if !bidMayBe(bid, len(m.Reserves)) {
			return false
		}
	}
	return len(m.Reserves) >= 1 && len(m.Reserves) <= 8 && bidMayBe(m.Reserves, len(m.Reserves)) &&
		len(m.Bids) >= 1 && len(m.Bids) <= 8 &&
		slices.Equal(slices.Sorted(slices.Values(m.Order)), upTo(len(m.Bids)))
}

// gain is what a bidder gains by an item, told by the words alone; one without a bid never has it.
func gain(m api.Market, bidder, item int) int {
	if item == none {
		return 0
	}
	if len(m.Bids[bidder]) == 0 {
		return -1
	}
	return m.Bids[bidder][item] - m.Reserves[item]
}

// gains are those of all bidders.
func gains(m api.Market) [][]int {
	g := [][]int{}
	for bidder := range m.Bids {
		by := []int{}
		for item := range m.Reserves {
			by = append(by, gain(m, bidder, item))
		}
		g = append(g, by)
	}
	return g
}

// sum is what all of a market gain by what they have, but for one; api.None: for nobody.
func sum(m api.Market, has []int, but int) int {
	n := 0
	for bidder, item := range has {
		if bidder != but {
			n += gain(m, bidder, item)
		}
	}
	return n
}

// isMatching is whether has is a matching of a market, told by the words alone.
func isMatching(m api.Market, has []int) bool {
	for bidder, item := range has {
		if len(has) != len(m.Bids) {
			return false
		}
		if item != none && (item < 0 || item >= len(m.Reserves) || gain(m, bidder, item) < 0 || slices.Contains(has[:bidder], item)) {
			return false
		}
	}
	return len(has) == len(m.Bids)
}

// without is the market in which a bidder has no bid.
func without(m api.Market, bidder int) api.Market {
	n := clone(m)
	n.Bids[bidder] = nil
	return n
}

// best is the first of the best of all matchings of those who stand at a place and behind, whose items are not taken yet, and what it gains: each matching is gone through, a less item ahead of a greater one, none behind all.
func best(m api.Market, place int, taken uint) (has []int, most int) {
	if place == len(m.Order) {
		return slices.Repeat([]int{none}, len(m.Bids)), 0
	}
	bidder := m.Order[place]
	most = -1
	for _, item := range append(upTo(len(m.Reserves)), none) {
		n, mask := gain(m, bidder, item), taken
		if item != none {
			mask |= 1 << item
		}
		if n < 0 || item != none && mask == taken {
			continue
		}
		if l, behind := best(m, place+1, mask); n+behind > most {
			has, most = l, n+behind
			has[bidder] = item
		}
	}
	return has, most
}

// byTrial is what Lost has to answer, by all matchings.
func byTrial(m api.Market, bidder int) int {
	has, _ := best(m, 0, 0)
	_, alone := best(without(m, bidder), 0, 0)
	return alone - sum(m, has, bidder)
}

// told is what Lost has to answer, by the calls that the words name; had is the first of the best.
func told(m api.Market, had []int, bidder int) int {
	alone, _ := weights.Best(gains(without(m, bidder)), len(m.Reserves))
	return alone - sum(m, had, bidder)
}

// toldOf is what Of has to answer for a matching.
func toldOf(m api.Market, has []int) []int {
	pays, had := make([]int, len(has)), first(m)
	for bidder, item := range has {
		if item != none {
			pays[bidder] = m.Reserves[item] + told(m, had, bidder)
		}
	}
	return pays
}

// first is who has what at the close.
func first(m api.Market) []int {
	has, _ := firsts.First(gains(m), len(m.Reserves), m.Order)
	return has
}

// lost fails unless Lost is that.
func lost(t *testing.T, m api.Market, bidder, want int) {
	t.Helper()
	if n, e := payments.Lost(m, bidder); e != api.OK || n != want {
		t.Errorf("Lost(%v, %d) = %d, %d, want %d", m, bidder, n, e, want)
	}
}

// pays fails unless Of is that.
func pays(t *testing.T, m api.Market, has, want []int) {
	t.Helper()
	if l, e := payments.Of(m, has); e != api.OK || !slices.Equal(l, want) {
		t.Errorf("Of(%v, %v) = %v, %d, want %v", m, has, l, e, want)
	}
}

// asTold fails unless Lost answers of each bidder what the words tell.
func asTold(t *testing.T, m api.Market) {
	t.Helper()
	had := first(m)
	for bidder := range m.Bids {
		lost(t, m, bidder, told(m, had, bidder))
	}
}

// noBidder fails unless Lost tells that there is no such bidder, or that the market may not be, and nothing else.
func noBidder(t *testing.T, m api.Market, bidder int) {
	t.Helper()
	if n, e := payments.Lost(m, bidder); e != api.ErrArg || n != 0 {
		t.Errorf("Lost(%v, %d) = %d, %d, want ErrArg", m, bidder, n, e)
	}
}

// noMatching fails unless Of tells that this is no matching, or that the market may not be, and nothing else.
func noMatching(t *testing.T, m api.Market, has []int) {
	t.Helper()
	if l, e := payments.Of(m, has); e != api.ErrArg || len(l) != 0 {
		t.Errorf("Of(%v, %v) = %v, %d, want ErrArg", m, has, l, e)
	}
}

// marketMayNotBe fails unless both tell that, whoever is asked of, whatever is had.
func marketMayNotBe(t *testing.T, m api.Market) {
	t.Helper()
	for _, bidder := range []int{-1, 0, 1, len(m.Bids) - 1, len(m.Bids)} {
		noBidder(t, m, bidder)
	}
	nobody := slices.Repeat([]int{none}, len(m.Bids))
	noMatching(t, m, nobody)
	noMatching(t, m, nil)
	if len(nobody) > 0 {
		nobody[0] = 0
		noMatching(t, m, nobody)
	}
}

// lists calls f with all lists of so many of these numbers.
func lists(many int, numbers []int, f func(l []int)) {
	of := 1
	for range many {
		of *= len(numbers)
	}
	for which := range of {
		l := []int{}
		for range many {
			l = append(l, numbers[which%len(numbers)])
			which /= len(numbers)
		}
		f(l)
	}
}

// bidsOf are all bids of so many of these numbers, and none.
func bidsOf(items int, numbers []int) [][]int {
	bids := [][]int{nil}
	lists(items, numbers, func(l []int) { bids = append(bids, l) })
	return bids
}

// small calls f with all markets of so many bidders and items by few numbers, orders rising and falling.
func small(bidders, items, numbers int, f func(m api.Market)) {
	bids := bidsOf(items, upTo(numbers))
	lists(items, []int{0, 1}, func(reserves []int) {
		lists(bidders, upTo(len(bids)), func(which []int) {
			m := api.Market{Reserves: reserves, Order: upTo(bidders)}
			for _, w := range which {
				m.Bids = append(m.Bids, bids[w])
			}
			f(m)
			if bidders > 1 {
				m.Order = downFrom(bidders)
				f(m)
			}
		})
	})
}

// smalls calls f with all markets of few bidders and items by few numbers.
func smalls(f func(m api.Market)) {
	small(1, 1, 5, f)
	small(2, 1, 5, f)
	small(3, 1, 5, f)
	small(1, 2, 4, f)
	small(2, 2, 4, f)
	small(3, 2, 3, f)
	small(1, 3, 3, f)
	small(2, 3, 3, f)
}

// draw is numbers that hang on the seed alone.
type draw int

func (d *draw) below(n int) int {
	*d = (*d*1103515245 + 12345) & math.MaxInt32
	return int(*d>>8) % n
}

// list is so many numbers below n.
func (d *draw) list(many, n int) []int {
	l := []int{}
	for range many {
		l = append(l, d.below(n))
	}
	return l
}

// of is so many of these numbers.
func (d *draw) of(many int, numbers []int) []int {
	l := []int{}
	for range many {
		l = append(l, numbers[d.below(len(numbers))])
	}
	return l
}

// bid is a list of numbers of each kind: few, some, many, those at the edges, and about a number.
func (d *draw) bid(items, kind int) []int {
	switch kind % 5 {
	case 0:
		return d.list(items, 3)
	case 1:
		return d.list(items, 30)
	case 2:
		return d.list(items, most+1)
	case 3:
		return d.of(items, edges)
	}
	l := d.list(items, 3)
	for i := range l {
		l[i] += 6
	}
	return l
}

// market is one of each kind and size, some of whose bidders have no bid, and some of whose items cost nothing at least.
func market(bidders, items, seed int) api.Market {
	d := draw(seed*104729 + bidders*977 + items)
	m := api.Market{Reserves: make([]int, items)}
	if seed%2 == 0 {
		m.Reserves = d.bid(items, seed)
		for item := range m.Reserves {
			m.Reserves[item] /= 1 + d.below(3)
		}
	}
	for bidder := range bidders {
		bid := d.bid(items, seed)
		if d.below(12) == 0 {
			bid = nil
		}
		m.Bids = append(m.Bids, bid)
		m.Order = slices.Insert(m.Order, d.below(bidder+1), bidder)
	}
	return m
}

// drawn calls f with so many markets of each size.
func drawn(seeds int, f func(m api.Market)) {
	for bidders := 1; bidders <= 8; bidders++ {
		for items := 1; items <= 8; items++ {
			for seed := range seeds {
				f(market(bidders, items, seed))
			}
		}
	}
}

// matching is one of a market's, drawn: each has one of the items that it may have, if one is left, or none.
func (d *draw) matching(m api.Market) []int {
	has := slices.Repeat([]int{none}, len(m.Bids))
	for bidder := range has {
		for range d.below(4) {
			if item := d.below(len(m.Reserves)); gain(m, bidder, item) >= 0 && !slices.Contains(has, item) {
				has[bidder] = item
			}
		}
	}
	return has
}

// matchings calls f with drawn markets, so many of each size, and matchings of each: the first of the best, nobody with anything, others.
func matchings(seeds int, f func(m api.Market, has []int)) {
	drawn(seeds, func(m api.Market) {
		f(m, first(m))
		f(m, slices.Repeat([]int{none}, len(m.Bids)))
		d := draw(len(m.Bids) + m.Reserves[0])
		for range 4 {
			f(m, d.matching(m))
		}
	})
}

// plain is a market of so many bidders, all with that bid, at no reserves.
func plain(bidders int, bid []int, items int) api.Market {
	return api.Market{Reserves: make([]int, items), Bids: slices.Repeat([][]int{bid}, bidders), Order: upTo(bidders)}
}

// of is a market of these reserves and bids.
func of(reserves []int, bids ...[]int) api.Market {
	return api.Market{Reserves: reserves, Bids: bids, Order: upTo(len(bids))}
}

// clone is the same market in memory of its own.
func clone(m api.Market) api.Market {
	bids := [][]int{}
	for _, bid := range m.Bids {
		bids = append(bids, slices.Clone(bid))
	}
	return api.Market{Reserves: slices.Clone(m.Reserves), Bids: bids, Order: slices.Clone(m.Order)}
}

// The chapter's examples.
func TestExamples(t *testing.T) {
	m, n := of([]int{2}, []int{9}, []int{5}), of([]int{0, 0}, []int{4, 4}, []int{4, 4}, []int{3, 0})
	lost(t, m, 0, 3)
	lost(t, m, 1, 0)
	pays(t, m, []int{0, none}, []int{5, 0})
	noMatching(t, m, []int{0, 0})
	pays(t, n, []int{0, 1, none}, []int{3, 3, 0})
}

// P14.1: Lost against each matching, one by one: of each small market, and of each size.
func TestLostAgainstAllMatchings(t *testing.T) {
	check := func(m api.Market) {
		for bidder := range m.Bids {
			lost(t, m, bidder, byTrial(m, bidder))
		}
	}
	smalls(check)
	drawn(10, func(m api.Market) {
		if len(m.Bids)+len(m.Reserves) <= 10 {
			check(m)
		}
	})
}

// P14.1: Lost against the calls that the words name, of each size.
func TestLostAgainstTheWords(t *testing.T) {
	drawn(20, func(m api.Market) { asTold(t, m) })
	for seed := range 100 {
		asTold(t, market(8, 8, seed))
	}
}

// P14.1: the gains are those that package markets tells, too.
func TestLostByMarkets(t *testing.T) {
	drawn(20, func(m api.Market) {
		by, _ := markets.Gains(m)
		had, _ := firsts.First(by, len(m.Reserves), m.Order)
		for bidder := range m.Bids {
			n, _ := markets.Without(m, bidder)
			rest, _ := markets.Gains(n)
			want, _ := weights.Best(rest, len(m.Reserves))
			for other, item := range had {
				if other != bidder && item != none {
					want -= by[other][item]
				}
			}
			lost(t, m, bidder, want)
		}
	})
}

// P14.1: whom the first of the best gives an item hangs on the order, and so does what others lose.
func TestLostByTheOrder(t *testing.T) {
	m := of([]int{3}, []int{5}, []int{5}, []int{4})
	for _, order := range [][]int{{0, 1, 2}, {0, 2, 1}, {2, 0, 1}} {
		m.Order = order
		lost(t, m, 0, 2)
		lost(t, m, 1, 0)
		lost(t, m, 2, 0)
	}
	for _, order := range [][]int{{1, 0, 2}, {1, 2, 0}, {2, 1, 0}} {
		m.Order = order
		lost(t, m, 0, 0)
		lost(t, m, 1, 2)
		lost(t, m, 2, 0)
	}
	// Where both have an item, whoever stands first, others lose as much by either.
	m = of([]int{0, 0}, []int{4, 4}, []int{4, 4}, []int{3, 0})
	for _, order := range [][]int{{0, 1, 2}, {1, 0, 2}, {2, 1, 0}} {
		m.Order = order
		lost(t, m, 0, 3)
		lost(t, m, 1, 3)
		lost(t, m, 2, 0)
	}
}

// P14.1: by who bids alone nobody loses anything.
func TestLostOfOne(t *testing.T) {
	for items := 1; items <= 8; items++ {
		for _, reserve := range edges {
			for _, bid := range edges {
				m := plain(8, nil, items)
				m.Reserves = slices.Repeat([]int{reserve}, items)
				m.Bids[3] = slices.Repeat([]int{bid}, items)
				for bidder := range 8 {
					lost(t, m, bidder, 0)
				}
			}
		}
	}
}

// P14.1: of one item others lose what the last but one bids, above its reserve, by who has it; by all the others nothing.
func TestLostOfOneItem(t *testing.T) {
	for bidders := 1; bidders <= 8; bidders++ {
		for seed := range 60 {
			m := market(bidders, 1, seed)
			said := []int{m.Reserves[0], m.Reserves[0]}
			for _, bid := range m.Bids {
				said = append(said, bid...)
			}
			slices.Sort(said)
			had := first(m)
			for bidder := range m.Bids {
				want := 0
				if had[bidder] == 0 {
					want = max(0, said[len(said)-2]-m.Reserves[0])
				}
				lost(t, m, bidder, want)
			}
		}
	}
}

// P14.1, P14.2: as many bidders and items as there may be, with the most to be bid.
func TestTheMostThereMayBe(t *testing.T) {
	for items := 1; items <= 8; items++ {
		for bidders := 1; bidders <= 8; bidders++ {
			for _, n := range edges {
				for _, reserve := range edges {
					m := plain(bidders, slices.Repeat([]int{n}, items), items)
					m.Reserves = slices.Repeat([]int{reserve}, items)
					has := slices.Repeat([]int{none}, bidders)
					want, cost := make([]int, bidders), make([]int, bidders)
					for item := range min(items, bidders) {
						if n < reserve {
							break
						}
						has[item], cost[item] = item, reserve
						if bidders > items {
							want[item], cost[item] = n-reserve, n
						}
					}
					for bidder := range bidders {
						lost(t, m, bidder, want[bidder])
					}
					pays(t, m, has, cost)
				}
			}
		}
	}
}

// P14.1: bidders of whom there are none.
func TestBiddersThatAreNone(t *testing.T) {
	for bidders := 1; bidders <= 8; bidders++ {
		for _, bid := range [][]int{nil, {3, 4}} {
			m := plain(bidders, bid, 2)
			for _, bidder := range append([]int{-1, bidders, bidders + 1, 8, 9, 255, 256}, far...) {
				if bidder < 0 || bidder >= bidders {
					noBidder(t, m, bidder)
				}
			}
			asTold(t, m)
		}
	}
}

// P14.1: who has no bid is a bidder all the same.
func TestLostWithoutABid(t *testing.T) {
	for _, bid := range [][]int{nil, {}, make([]int, 0, 2)} {
		m := of([]int{1, 1}, []int{5, 4}, bid, []int{5, 4}, []int{3, 3})
		lost(t, m, 1, 0)
		lost(t, m, 0, 3) // it has item 0; without it 2 would have that one, and 3 the other
		lost(t, m, 2, 2)
		lost(t, m, 3, 0)
	}
}

// P14.2: Of against the words: of each small market, with whatever is had.
func TestOfAgainstTheWords(t *testing.T) {
	check := func(m api.Market) {
		lists(len(m.Bids), append([]int{-2, none}, upTo(len(m.Reserves)+1)...), func(has []int) {
			if isMatching(m, has) {
				pays(t, m, has, toldOf(m, has))
			} else {
				noMatching(t, m, has)
			}
		})
	}
	small(1, 1, 4, check)
	small(2, 1, 4, check)
	small(3, 1, 3, check)
	small(1, 2, 4, check)
	small(2, 2, 3, check)
	small(3, 2, 2, check)
	small(1, 3, 3, check)
	small(2, 3, 2, check)
}

// P14.2: and of each size, of matchings.
func TestOfEachSize(t *testing.T) {
	matchings(15, func(m api.Market, has []int) { pays(t, m, has, toldOf(m, has)) })
}

// P14.2: Of tells, of whoever has an item, what Lost tells, and its reserve.
func TestOfIsLost(t *testing.T) {
	matchings(10, func(m api.Market, has []int) {
		want := make([]int, len(has))
		for bidder, item := range has {
			if item != none {
				n, _ := payments.Lost(m, bidder)
				want[bidder] = n + m.Reserves[item]
			}
		}
		pays(t, m, has, want)
	})
}

// P14.2: what is had need not be the best: each pays the reserve of what it has here, and what others lose by it in the best.
func TestOfOthers(t *testing.T) {
	m := of([]int{2, 1}, []int{9, 4}, []int{5, 3})
	pays(t, m, []int{0, 1}, []int{2 + 1, 1})
	pays(t, m, []int{1, 0}, []int{1 + 1, 2})
	pays(t, m, []int{1, none}, []int{1 + 1, 0})
	pays(t, m, []int{none, 0}, []int{0, 2})
	pays(t, m, []int{none, 1}, []int{0, 1})
	pays(t, m, []int{none, none}, []int{0, 0})
	m = of([]int{2}, []int{9}, []int{5})
	pays(t, m, []int{none, 0}, []int{0, 2})
}

// P14.2: lists that are not as many as the bidders.
func TestOfOtherLengths(t *testing.T) {
	for bidders := 1; bidders <= 8; bidders++ {
		m := plain(bidders, []int{3, 4}, 2)
		for many := range 20 {
			has := slices.Repeat([]int{none}, many)
			if many == bidders {
				pays(t, m, has, make([]int, many))
			} else {
				noMatching(t, m, has)
			}
			if many != bidders && many > 0 {
				has[0] = 0
				noMatching(t, m, has)
			}
		}
		noMatching(t, m, nil)
		noMatching(t, m, []int{})
	}
}

// P14.2: items of which there are none, at each place.
func TestOfItemsThatAreNone(t *testing.T) {
	for bidders := 1; bidders <= 8; bidders++ {
		for items := 1; items <= 8; items++ {
			m := plain(bidders, slices.Repeat([]int{2}, items), items)
			for bidder := range bidders {
				for _, item := range append([]int{items, items + 1, 8, 9, 255, 256}, far...) {
					has := slices.Repeat([]int{none}, bidders)
					if has[bidder] = item; item < 0 || item >= items {
						noMatching(t, m, has)
					}
				}
				for item := range items {
					has := slices.Repeat([]int{none}, bidders)
					has[bidder] = item
					pays(t, m, has, toldOf(m, has))
				}
			}
		}
	}
}

// P14.2: no item is had twice, by whomever.
func TestOfAnItemTwice(t *testing.T) {
	for bidders := 2; bidders <= 8; bidders++ {
		m := plain(bidders, slices.Repeat([]int{2}, 8), 8)
		for one := range bidders {
			for other := range one {
				for item := range 8 {
					has := slices.Repeat([]int{none}, bidders)
					has[one], has[other] = item, item
					noMatching(t, m, has)
					has[other] = (item + 1) % 8
					pays(t, m, has, make([]int, bidders))
				}
			}
		}
		all := upTo(bidders)
		pays(t, m, all, make([]int, bidders))
		all[bidders-1] = 0
		noMatching(t, m, all)
	}
}

// P14.2: an item may be had at no gain, and not at a loss; nor by who has no bid.
func TestOfItemsAtALoss(t *testing.T) {
	for items := 1; items <= 8; items++ {
		for item := range items {
			for _, reserve := range []int{1, 5, most - 1, most} {
				m := plain(2, make([]int, items), items)
				m.Reserves[item] = reserve
				for _, bid := range []int{0, reserve - 1, reserve, min(reserve+1, most), most} {
					m.Bids[1] = make([]int, items)
					m.Bids[1][item] = bid
					if has := []int{none, item}; bid < reserve {
						noMatching(t, m, has)
					} else {
						pays(t, m, has, []int{0, reserve})
					}
				}
				m.Bids[1] = nil
				noMatching(t, m, []int{none, item})
				m.Reserves[item] = 0
				noMatching(t, m, []int{none, item})
				pays(t, m, []int{item, none}, []int{0, 0})
			}
		}
	}
}

// P14.1, P14.2: markets that may not be: of no items or bidders, or too many; of a reserve, or a bid, or an order that may not be.
func TestMarketsThatMayNotBe(t *testing.T) {
	marketMayNotBe(t, api.Market{})
	for _, items := range []int{0, 9, 10, 256, 257} {
		marketMayNotBe(t, plain(1, nil, items))
		marketMayNotBe(t, plain(2, make([]int, items), items))
	}
	for _, bidders := range []int{0, 9, 10, 256, 257} {
		marketMayNotBe(t, plain(bidders, []int{1, 1}, 2))
		marketMayNotBe(t, plain(bidders, nil, 2))
	}
	for _, n := range append([]int{-1}, far...) {
		for item := range 3 {
			m := plain(2, []int{1, 2, 3}, 3)
			m.Reserves[item] = n
			marketMayNotBe(t, m)
			bid := []int{1, 2, 3}
			bid[item] = n
			marketMayNotBe(t, of([]int{0, 0, 0}, []int{1, 2, 3}, bid))
			marketMayNotBe(t, of([]int{0, 0, 0}, bid, nil))
		}
	}
	for many := range 20 {
		if many > 0 && many != 3 {
			m := plain(2, []int{1, 2, 3}, 3)
			m.Bids[1] = make([]int, many)
			marketMayNotBe(t, m)
		}
	}
	for _, order := range [][]int{nil, {0}, {1}, {0, 0}, {1, 1}, {0, 2}, {-1, 0}, {1, 0, 0}, {0, 1, 2}, {0, 1, 0}} {
		m := plain(2, []int{1}, 1)
		m.Order = order
		marketMayNotBe(t, m)
	}
}

// R2: a market, and a bidder or what is had, that all may not be.
func TestAllWrong(t *testing.T) {
	noBidder(t, api.Market{}, -1)
	noBidder(t, plain(9, []int{-1}, 1), 9)
	noBidder(t, api.Market{Reserves: []int{-1}, Bids: [][]int{{most + 1}}}, 1)
	noMatching(t, api.Market{}, []int{0})
	noMatching(t, plain(9, []int{1}, 1), make([]int, 9))
	noMatching(t, plain(2, []int{-1}, 1), []int{1, 1, 1})
	noMatching(t, plain(2, []int{1}, 1), []int{-2, 7, 7})
}

// P14.3: what others lose is 0 at least; of who has nothing 0; of who has an item at most what it gains by it.
func TestLostIsNoMoreThanIsGained(t *testing.T) {
	check := func(m api.Market) {
		for bidder, item := range first(m) {
			n, e := payments.Lost(m, bidder)
			if gained := gain(m, bidder, item); e != api.OK || n < 0 || n > gained {
				t.Errorf("Lost(%v, %d) = %d, %d, but it gains %d", m, bidder, n, e, gained)
			}
		}
	}
	smalls(check)
	drawn(30, check)
}

// P14.3: so who has an item at the close pays its reserve at least, and no more than it says that it is worth; who has none, nothing.
func TestNobodyPaysMoreThanItSays(t *testing.T) {
	check := func(m api.Market) {
		has := first(m)
		l, e := payments.Of(m, has)
		if e != api.OK || len(l) != len(has) {
			t.Fatalf("Of(%v, %v) = %v, %d", m, has, l, e)
		}
		for bidder, item := range has {
			if item == none && l[bidder] != 0 || item != none && (l[bidder] < m.Reserves[item] || l[bidder] > m.Bids[bidder][item]) {
				t.Errorf("Of(%v, %v) = %v", m, has, l)
			}
		}
	}
	smalls(check)
	drawn(30, check)
}

// P0.2: what each pays at the close is the least price at which prices that rise end.
func TestPaysTheLeastPrices(t *testing.T) {
	check := func(m api.Market) {
		at, _ := rises.Least(m)
		has := first(m)
		want := make([]int, len(has))
		for bidder, item := range has {
			if item != none {
				want[bidder] = at[item]
			}
		}
		pays(t, m, has, want)
	}
	smalls(check)
	drawn(30, check)
}

// left is what a bidder to whom items are worth that has left at the close of a market.
func left(m api.Market, bidder int, worth []int) int {
	has := first(m)
	l, e := payments.Of(m, has)
	if e != api.OK || len(l) != len(has) || has[bidder] == none {
		return 0
	}
	return worth[has[bidder]] - l[bidder]
}

// honest fails if a bidder has more left by saying something else of these than by saying what it is worth to it.
func honest(t *testing.T, m api.Market, bidder int, others [][]int) {
	t.Helper()
	worth := m.Bids[bidder]
	by := left(m, bidder, worth)
	for _, bid := range others {
		n := clone(m)
		n.Bids[bidder] = bid
		if other := left(n, bidder, worth); other > by {
			t.Errorf("%v: bidder %d has %d, but %d by saying %v", m, bidder, by, other, bid)
		}
	}
}

// P0.6: who says what things are worth to it has as much as by saying anything else.
func TestHonest(t *testing.T) {
	bids := bidsOf(2, upTo(4))
	few := func(m api.Market) {
		if len(m.Bids[0]) > 0 {
			honest(t, m, 0, bids)
		}
	}
	small(2, 2, 3, few)
	small(3, 2, 2, few)
	drawn(6, func(m api.Market) {
		d := draw(m.Reserves[0] + len(m.Bids))
		for bidder, bid := range m.Bids {
			others := [][]int{nil, m.Reserves}
			for kind := range 5 {
				others = append(others, d.bid(len(m.Reserves), kind))
			}
			if len(bid) > 0 {
				honest(t, m, bidder, others)
			}
		}
	})
}

// P14.1: what a bidder itself says is nothing to what others lose by it, as long as it has the same.
func TestLostIsNotByOwnBid(t *testing.T) {
	drawn(20, func(m api.Market) {
		had := first(m)
		for bidder, item := range had {
			if item == none {
				continue
			}
			n := clone(m)
			n.Bids[bidder][item] = most
			if !slices.Equal(first(n), had) {
				continue
			}
			want, _ := payments.Lost(m, bidder)
			lost(t, n, bidder, want)
		}
	})
}

// P14.1, P14.2: bidders named otherwise, with the order likewise, lose as much, and pay as much.
func TestNamedOtherwise(t *testing.T) {
	drawn(15, func(m api.Market) {
		n := clone(m)
		slices.Reverse(n.Bids)
		for place := range n.Order {
			n.Order[place] = len(n.Bids) - 1 - n.Order[place]
		}
		for bidder := range m.Bids {
			want, _ := payments.Lost(m, bidder)
			lost(t, n, len(n.Bids)-1-bidder, want)
		}
		has := first(m)
		want, _ := payments.Of(m, has)
		slices.Reverse(has)
		slices.Reverse(want)
		pays(t, n, has, want)
	})
}

// roomy is a list with numbers in its spare room.
func roomy(l []int) []int {
	return append(slices.Clone(l), 91, 92, 93)[:len(l)]
}

// roomyMarket is a market with more in the spare room of all of its lists.
func roomyMarket(m api.Market) api.Market {
	bids := [][]int{}
	for _, bid := range m.Bids {
		bids = append(bids, roomy(bid))
	}
	bids = append(bids, []int{77}, []int{78})[:len(m.Bids)]
	return api.Market{Reserves: roomy(m.Reserves), Bids: bids, Order: roomy(m.Order)}
}

// whole are all lists of a market, spare room too, as they stand now.
func whole(m api.Market) [][]int {
	l := [][]int{slices.Clone(m.Reserves[:cap(m.Reserves)]), slices.Clone(m.Order[:cap(m.Order)])}
	for _, bid := range m.Bids[:cap(m.Bids)] {
		l = append(l, slices.Clone(bid[:cap(bid)]))
	}
	return l
}

// same is whether two lists of lists are; an empty list and none are the same.
func same(a, b [][]int) bool {
	return slices.EqualFunc(a, b, slices.Equal[[]int])
}

// R4: no call changes what it is handed, spare room neither.
func TestNothingIsChanged(t *testing.T) {
	matchings(5, func(one api.Market, had []int) {
		m, has := roomyMarket(one), roomy(had)
		before, was := whole(m), slices.Clone(has[:cap(has)])
		for bidder := -1; bidder <= len(m.Bids); bidder++ {
			payments.Lost(m, bidder)
		}
		for _, l := range [][]int{has, has[:len(has)-1], has[:len(has)+1], nil, m.Order} {
			payments.Of(m, l)
		}
		if !same(whole(m), before) || !slices.Equal(has[:cap(has)], was) {
			t.Errorf("%v, %v was %v, %v", whole(m), has[:cap(has)], before, was)
		}
	})
}

// R4: spare room is not part of what is handed in; an empty bid is as none.
func TestSpareRoomIsNotRead(t *testing.T) {
	m := api.Market{Reserves: []int{0, 0, -1}[:2], Bids: [][]int{[]int{5, 3, 9}[:2], []int{7, 7}[:0], []int{9, 0, 0}[:2], {-1}}[:3], Order: []int{1, 0, 2, 0}[:3]}
	lost(t, m, 0, 0)
	lost(t, m, 1, 0)
	lost(t, m, 2, 2)
	noBidder(t, m, 3)
	pays(t, m, []int{1, none, 0, 0}[:3], []int{0, 0, 2})
	noMatching(t, m, []int{1, none, 0}[:2])
	noMatching(t, m, []int{1, none, 0}[:0])
	noMatching(t, m, []int{1, 0, none}) // what stands in an empty bid's spare room is none
	matchings(5, func(m api.Market, has []int) {
		asTold(t, roomyMarket(m))
		pays(t, roomyMarket(m), roomy(has), toldOf(m, has))
	})
}

// spoil writes n over all of l, spare room too.
func spoil(l []int, n int) {
	l = l[:cap(l)]
	for i := range l {
		l[i] = n
	}
}

// listsOf are all lists of a market.
func listsOf(m api.Market) [][]int {
	return append([][]int{m.Reserves, m.Order}, m.Bids...)
}

// R4, R5: an answer shares no memory with what was handed in, nor with another answer; nothing that was handed in, or answered before, is kept.
func TestAnswersShareNoMemory(t *testing.T) {
	matchings(5, func(m api.Market, had []int) {
		want := toldOf(m, had)
		handed, has := roomyMarket(m), roomy(had)
		a, _ := payments.Of(handed, has)
		b, _ := payments.Of(handed, has)
		spoil(a, 99)
		if !same(whole(handed), whole(roomyMarket(m))) || !slices.Equal(has[:cap(has)], roomy(had)[:cap(has)]) {
			t.Errorf("of %v, %v: an answer shares memory with what was handed in", m, had)
		}
		for _, l := range append(listsOf(handed), has) {
			spoil(l, 97)
		}
		if !slices.Equal(b, want) {
			t.Errorf("of %v, %v: two answers share memory, or what was handed in is kept", m, had)
		}
		pays(t, m, had, want)
		asTold(t, m)
	})
}

// R4: the same list handed in several times is as several.
func TestOneListForMany(t *testing.T) {
	l := []int{1, 0, 2}
	m := api.Market{Reserves: l, Bids: [][]int{l, l, l}, Order: l}
	pays(t, m, l, []int{0, 1, 2})
	asTold(t, m)
	m.Reserves = []int{0, 0, 0}
	m.Bids = [][]int{l, l, l}
	lost(t, m, 1, 1) // 0 would have item 0, not item 1
	pays(t, m, l, []int{0, 1, 2})
	m.Bids = [][]int{l, l, {9, 9, 9}}
	asTold(t, m)
	if !slices.Equal(l, []int{1, 0, 2}) {
		t.Error(l)
	}
}

// R5: what was asked before, well or wrong, is nothing to what is asked now.
func TestNothingIsKept(t *testing.T) {
	matchings(2, func(m api.Market, has []int) {
		full := plain(8, slices.Repeat([]int{most}, 8), 8)
		payments.Lost(full, 7)
		payments.Of(full, downFrom(8))
		asTold(t, m)
		pays(t, m, has, toldOf(m, has))
		payments.Lost(plain(9, nil, 8), 0)
		payments.Of(plain(3, []int{most, 1}, 2), []int{0, 0, 1})
		asTold(t, m)
		pays(t, m, has, toldOf(m, has))
	})
}

// R1: long lists, which may not be.
func TestLongLists(t *testing.T) {
	long := make([]int, 100000)
	marketMayNotBe(t, plain(1, nil, 100000))
	marketMayNotBe(t, plain(1, long, 100000))
	marketMayNotBe(t, plain(1, long, 1))
	marketMayNotBe(t, plain(100000, nil, 1))
	marketMayNotBe(t, api.Market{Reserves: []int{0}, Bids: [][]int{{0}}, Order: long})
	noMatching(t, plain(1, []int{1}, 1), long)
	noMatching(t, plain(8, []int{1}, 1), slices.Repeat([]int{none}, 100000))
}

// numbersOf is a number of each byte: small ones, and such as stand about the most.
func numbersOf(b []byte) []int {
	l := []int{}
	for _, n := range b {
		if n >= 100 && n < 128 {
			l = append(l, most+int(n)-126)
		} else {
			l = append(l, int(int8(n)))
		}
	}
	return l
}

// splitAt is what stands between these bytes.
func splitAt(b []byte, at byte) [][]byte {
	parts := [][]byte{{}}
	for _, n := range b {
		if n == at {
			parts = append(parts, []byte{})
		} else {
			last := len(parts) - 1
			parts[last] = append(parts[last], n)
		}
	}
	return parts
}

// checkAll holds both calls against the words, whatever comes in.
func checkAll(t *testing.T, m api.Market, bidder int, has []int) {
	t.Helper()
	if !marketMayBe(m) {
		marketMayNotBe(t, m)
		noBidder(t, m, bidder)
		noMatching(t, m, has)
		return
	}
	asTold(t, m)
	if bidder < 0 || bidder >= len(m.Bids) {
		noBidder(t, m, bidder)
	}
	if isMatching(m, has) {
		pays(t, m, has, toldOf(m, has))
	} else {
		noMatching(t, m, has)
	}
	pays(t, m, first(m), toldOf(m, first(m)))
}

// R1, R2, P14.1, P14.2: any lists; the byte 128 parts the bids. An order of as many as there are bids goes with them, too.
func FuzzAll(f *testing.F) {
	f.Add([]byte{0, 0}, []byte{4, 4, 128, 4, 4, 128, 3, 0}, []byte{2, 1, 0}, 2, []byte{0, 1, 255})
	f.Add([]byte{2}, []byte{9, 128, 5}, []byte{0, 1}, 0, []byte{0, 255})
	f.Add([]byte{2}, []byte{9, 128, 5}, []byte{0, 1}, 2, []byte{0, 0})
	f.Add([]byte{126, 0}, []byte{126, 127}, []byte{0}, -1, []byte{1})
	f.Add([]byte{124}, []byte{126, 128, 125}, []byte{0, 1}, 1, []byte{254, 0})
	f.Add([]byte{1}, []byte{0}, []byte{0}, 0, []byte{0})
	f.Add([]byte{}, []byte{}, []byte{}, 0, []byte{})
	f.Fuzz(func(t *testing.T, reserve, all, stand []byte, bidder int, had []byte) {
		m, has := api.Market{Reserves: numbersOf(reserve), Order: numbersOf(stand)}, numbersOf(had)
		for _, one := range splitAt(all, 128) {
			m.Bids = append(m.Bids, numbersOf(one))
		}
		checkAll(t, m, bidder, has)
		m.Order = upTo(len(m.Bids))
		checkAll(t, m, bidder, has)
		if len(m.Bids[0]) > 0 {
			m.Reserves = make([]int, len(m.Bids[0]))
			checkAll(t, m, bidder, has)
		}
	})
}
