package markets_test

import (
	"math"
	"slices"
	"testing"

	"salesroom/api"
	"salesroom/markets"
	"salesroom/nums"
)

// good are numbers that may stand in a bid, and among the reserves: the edges among them.
var good = []int{0, 1, 2, 5, 255, 256, 65536, 999999, 1000000}

// bad are numbers that may not.
var bad = []int{-1, -2, -1000000, math.MinInt, 1000001, 1000002, 16777216, 1 << 31, 1<<32 - 1, 1 << 32, 1<<32 + 5, math.MaxInt}

// noBidders are numbers that no bidder has, of so many.
func noBidders(bidders int) []int {
	return []int{-1, -2, -8, math.MinInt, bidders, bidders + 1, 8, 9, 255, 256, 256 + bidders - 1, 1 << 32, 1<<32 + bidders - 1, math.MaxInt}
}

// numbers are so many that may be; by another seed they are others.
func numbers(n, seed int) []int {
	l := make([]int, n)
	for i := range l {
		l[i] = good[(seed+i*i+i)%len(good)]
	}
	return l
}

// market is one that may be, with so many bidders and items; by another seed it is another one. By some seeds a bidder has no bid.
func market(bidders, items, seed int) api.Market {
	m := api.Market{Reserves: numbers(items, seed)}
	for i := range bidders {
		var bid []int
		if (i+seed)%3 != 2 {
			bid = numbers(items, seed+2*i+1)
		}
		m.Bids = append(m.Bids, bid)
		m.Order = slices.Insert(m.Order, (i*5+seed)%(i+1), i)
	}
	return m
}

// example is a market of three bidders by two items, the middle one without a bid.
func example() api.Market {
	return api.Market{Reserves: []int{3, 1}, Bids: [][]int{{5, 0}, nil, {9, 8}}, Order: []int{1, 2, 0}}
}

// clone is a market in memory of its own, spare room too.
func clone(m api.Market) api.Market {
	l := api.Market{Reserves: slices.Clone(m.Reserves), Order: slices.Clone(m.Order)}
	for _, bid := range m.Bids {
		l.Bids = append(l.Bids, slices.Clone(bid))
	}
	return l
}

// same is whether two markets are; an empty list and none are the same.
func same(a, b api.Market) bool {
	return slices.Equal(a.Reserves, b.Reserves) && sameLists(a.Bids, b.Bids) && slices.Equal(a.Order, b.Order)
}

func sameLists(a, b [][]int) bool {
	return slices.EqualFunc(a, b, slices.Equal[[]int])
}

// empty is whether a market has nothing at all.
func empty(m api.Market) bool {
	return len(m.Reserves) == 0 && len(m.Bids) == 0 && len(m.Order) == 0
}

// with is l with n at that place, instead of what stood there.
func with(l []int, at, n int) []int {
	l = slices.Clone(l)
	l[at] = n
	return l
}

// allMayBe is whether these are n numbers that may stand in a bid.
func allMayBe(l []int, n int) bool {
	for _, one := range l {
		if one < 0 || one > 1000000 {
			return false
		}
	}
	return len(l) == n && n >= 1 && n <= 8
}

// mayBe is whether a market may be, told by the chapter's words alone.
func mayBe(m api.Market) bool {
	if !allMayBe(m.Reserves, len(m.Reserves)) || len(m.Bids) < 1 || len(m.Bids) > 8 {
		return false
	}
	for _, bid := range m.Bids {
		if len(bid) > 0 && !allMayBe(bid, len(m.Reserves)) {
			return false
		}
	}
	return isOrder(m.Order, len(m.Bids))
}

// isOrder is whether these are the bidders, of whom there are so many, in some order.
func isOrder(order []int, bidders int) bool {
	sorted := slices.Sorted(slices.Values(order))
	for i, bidder := range sorted {
		if i != bidder {
			return false
		}
	}
	return len(sorted) == bidders
}

// listBytes are a list's bytes, told by the words alone.
func listBytes(l ...int) []byte {
	b := []byte{byte(len(l))}
	for _, n := range l {
		b = append(b, byte(n), byte(n>>8), byte(n>>16), byte(n>>24))
	}
	return b
}

// bytesOf are a market's bytes, told by the words alone, of one that may not be, too.
func bytesOf(m api.Market) []byte {
	b := append(listBytes(m.Reserves...), byte(len(m.Bids)))
	for _, bid := range m.Bids {
		b = append(b, listBytes(bid...)...)
	}
	return append(b, listBytes(m.Order...)...)
}

// checked fails unless all calls take a market as one that may be, or as one that may not, as the words have it.
func checked(t *testing.T, m api.Market) {
	t.Helper()
	want := mayBe(m)
	if markets.Check(m) != want {
		t.Errorf("Check(%v) is not %t", m, want)
	}
	if want {
		return
	}
	if g, e := markets.Gains(m); e != api.ErrArg || len(g) != 0 {
		t.Errorf("Gains(%v) = %v, %d", m, g, e)
	}
	for bidder := -1; bidder <= len(m.Bids) && bidder <= 9; bidder++ {
		if o, e := markets.Without(m, bidder); e != api.ErrArg || !empty(o) {
			t.Errorf("Without(%v, %d) = %v, %d", m, bidder, o, e)
		}
	}
	if b, e := markets.Put(m); e != api.ErrArg || len(b) != 0 {
		t.Errorf("Put(%v) = %v, %d", m, b, e)
	}
}

// mayNotBe fails unless the words, and all calls, take a market as one that may not be.
func mayNotBe(t *testing.T, m api.Market) {
	t.Helper()
	if mayBe(m) {
		t.Errorf("%v should be one that may not be", m)
	}
	checked(t, m)
}

// got fails unless Get answers these.
func got(t *testing.T, b []byte, want api.Market, e api.Errno) {
	t.Helper()
	if m, f := markets.Get(b); f != e || !same(m, want) {
		t.Errorf("Get(%v) = %v, %d, want %v, %d", b, m, f, want, e)
	}
}

// notGot fails unless Get answers that error, and nothing else.
func notGot(t *testing.T, b []byte, e api.Errno) {
	t.Helper()
	got(t, b, api.Market{}, e)
}

// each calls f with a market that may be, of each size, by some seeds.
func each(f func(m api.Market)) {
	for bidders := 1; bidders <= 8; bidders++ {
		for items := 1; items <= 8; items++ {
			for seed := range 6 {
				f(market(bidders, items, seed))
			}
		}
	}
}

// P5.1: markets of each size may be; and so may some that are as small, as great and as empty as can be.
func TestCheckOfWhatMayBe(t *testing.T) {
	each(func(m api.Market) {
		if !markets.Check(m) {
			t.Errorf("Check(%v) is false", m)
		}
		checked(t, m)
	})
	for _, m := range []api.Market{
		example(),
		{Reserves: []int{3, 1}, Bids: [][]int{{5, 0}, nil}, Order: []int{1, 0}},
		{Reserves: []int{0}, Bids: [][]int{nil}, Order: []int{0}},
		{Reserves: []int{0}, Bids: [][]int{{}}, Order: []int{0}},
		{Reserves: []int{1000000}, Bids: [][]int{{1000000}}, Order: []int{0}},
		{Reserves: []int{1000000}, Bids: [][]int{{0}}, Order: []int{0}},
		{Reserves: make([]int, 8), Bids: make([][]int, 8), Order: []int{7, 6, 5, 4, 3, 2, 1, 0}},
		{Reserves: []int{0, 0}, Bids: [][]int{{}, nil, {0, 0}, {}}, Order: []int{3, 1, 0, 2}},
	} {
		if !markets.Check(m) {
			t.Errorf("Check(%v) is false", m)
		}
		checked(t, m)
	}
}

// P5.1: a market has 1 to 8 items and 1 to 8 bidders: no fewer, no more, and no other many of both.
func TestCheckOfSizes(t *testing.T) {
	sizes := []int{0, 1, 2, 7, 8, 9, 10, 16, 255, 256, 257, 264, 65544}
	for _, items := range sizes {
		for _, bidders := range sizes {
			m := api.Market{Reserves: make([]int, items), Bids: make([][]int, bidders), Order: make([]int, bidders)}
			for i := range m.Order {
				m.Order[i] = i
			}
			if want := items >= 1 && items <= 8 && bidders >= 1 && bidders <= 8; markets.Check(m) != want {
				t.Errorf("Check(%d items, %d bidders) is not %t", items, bidders, want)
			}
			if bidders == 0 {
				mayNotBe(t, m)
				continue
			}
			m.Bids[bidders-1] = make([]int, items)
			checked(t, m)
		}
	}
	mayNotBe(t, api.Market{})
	mayNotBe(t, api.Market{Reserves: []int{}, Bids: [][]int{}, Order: []int{}})
	mayNotBe(t, api.Market{Bids: [][]int{nil}, Order: []int{0}})
	mayNotBe(t, api.Market{Reserves: []int{1}})
	mayNotBe(t, api.Market{Reserves: []int{1}, Order: []int{0}})
}

// P5.1: each number at each place among the reserves; one that may not be is enough, whatever stands beside it.
func TestCheckOfReserves(t *testing.T) {
	each(func(m api.Market) {
		for at := range m.Reserves {
			o := clone(m)
			for _, n := range good {
				o.Reserves[at] = n
				if !markets.Check(o) {
					t.Errorf("Check(%v) is false", o)
				}
			}
			for _, n := range bad {
				o.Reserves[at] = n
				mayNotBe(t, o)
			}
		}
	})
	mayNotBe(t, api.Market{Reserves: []int{-1}, Bids: [][]int{nil}, Order: []int{0}})
	mayNotBe(t, api.Market{Reserves: []int{-1, 1000001}, Bids: [][]int{nil}, Order: []int{0}})
}

// P5.1: each number at each place of each bid.
func TestCheckOfBids(t *testing.T) {
	each(func(m api.Market) {
		for bidder := range m.Bids {
			for at := range m.Reserves {
				o := clone(m)
				o.Bids[bidder] = numbers(len(m.Reserves), at)
				for _, n := range good {
					o.Bids[bidder][at] = n
					if !markets.Check(o) {
						t.Errorf("Check(%v) is false", o)
					}
				}
				for _, n := range bad {
					o.Bids[bidder][at] = n
					mayNotBe(t, o)
				}
			}
		}
	})
}

// P5.1: a bid has as many numbers as there are items, or none; it does not matter how many another one has.
func TestCheckOfBidsSizes(t *testing.T) {
	each(func(m api.Market) {
		for bidder := range m.Bids {
			o := clone(m)
			for _, size := range []int{0, 1, 2, 3, 4, 5, 6, 7, 8, 9, 16, 255, 256, 256 + len(m.Reserves)} {
				o.Bids[bidder] = make([]int, size)
				if want := size == 0 || size == len(m.Reserves); markets.Check(o) != want {
					t.Errorf("Check(%v) is not %t", o, want)
				}
				checked(t, o)
			}
			o.Bids[bidder] = nil
			checked(t, o)
		}
	})
	mayNotBe(t, api.Market{Reserves: []int{1, 1}, Bids: [][]int{{1}, {1, 1, 1}}, Order: []int{0, 1}})
	mayNotBe(t, api.Market{Reserves: []int{1, 1}, Bids: [][]int{{1}, {1}}, Order: []int{0, 1}})
}

// P5.1: of one to four bidders all orders of any numbers near them, up to one too long.
func TestCheckOfAllShortOrders(t *testing.T) {
	for bidders := 1; bidders <= 4; bidders++ {
		m := market(bidders, 2, bidders)
		m.Order = []int{}
		let := allOrders(t, m, bidders+1)
		if want := []int{1, 2, 6, 24}[bidders-1]; let != want {
			t.Errorf("of %d bidders %d orders are let be, want %d", bidders, let, want)
		}
	}
}

// allOrders checks all orders that begin as the market's, and have at most so many numbers more; it tells how many are let be.
func allOrders(t *testing.T, m api.Market, more int) int {
	t.Helper()
	checked(t, m)
	let := 0
	if markets.Check(m) {
		let++
	}
	if more == 0 {
		return let
	}
	order := m.Order
	for n := -1; n <= len(m.Bids); n++ {
		m.Order = append(slices.Clone(order), n)
		let += allOrders(t, m, more-1)
	}
	return let
}

// P5.1: an order of 1 to 8 bidders that lacks one, has one twice, has one that is not there, or is too short or too long.
func TestCheckOfOrders(t *testing.T) {
	each(func(m api.Market) {
		bidders := len(m.Bids)
		for at := range bidders {
			o := clone(m)
			o.Order = slices.Delete(slices.Clone(m.Order), at, at+1)
			mayNotBe(t, o)
			for bidder := range bidders {
				o.Order = slices.Insert(slices.Clone(m.Order), at, bidder)
				mayNotBe(t, o)
				o.Order = with(m.Order, at, bidder)
				if markets.Check(o) != (m.Order[at] == bidder) {
					t.Errorf("Check(%v) is not right", o)
				}
				checked(t, o)
			}
			for _, n := range noBidders(bidders) {
				o.Order = with(m.Order, at, n)
				mayNotBe(t, o)
				o.Order = slices.Insert(slices.Clone(m.Order), at, n)
				mayNotBe(t, o)
			}
		}
		o := clone(m)
		o.Order = nil
		mayNotBe(t, o)
		o.Order = slices.Repeat(m.Order, 2)
		mayNotBe(t, o)
		o.Order = slices.Repeat(m.Order, 257)
		mayNotBe(t, o)
	})
}

// P5.1: a bidder that stands in the order many times is not one that stands there once, however its times are counted.
func TestCheckOfOneBidderManyTimes(t *testing.T) {
	for _, more := range []int{1, 2, 255, 256, 257, 65536, 1 << 20} {
		mayNotBe(t, api.Market{Reserves: []int{1}, Bids: [][]int{{1}}, Order: make([]int, 1+more)})
		mayNotBe(t, api.Market{Reserves: []int{1}, Bids: [][]int{{1}, nil}, Order: append(make([]int, 1+more), 1)})
	}
}

// P5.1: all orders in which eight bidders may stand.
func TestCheckOfAllOrders(t *testing.T) {
	m := market(8, 8, 1)
	slices.Sort(m.Order)
	if let := permuted(m, 8); let != 40320 {
		t.Errorf("%d orders are let be, want 40320", let)
	}
}

// permuted is how many of the orders are let be, that part from this one only in the first few.
func permuted(m api.Market, few int) int {
	if few == 0 {
		if markets.Check(m) {
			return 1
		}
		return 0
	}
	let := 0
	for i := range few {
		m.Order[i], m.Order[few-1] = m.Order[few-1], m.Order[i]
		let += permuted(m, few-1)
		m.Order[i], m.Order[few-1] = m.Order[few-1], m.Order[i]
	}
	return let
}

// P5.1: spare room is not part of a market.
func TestCheckIgnoresSpareRoom(t *testing.T) {
	reserves, bid, order, bids := []int{3, 1, -1}, []int{5, 0, 1000001}, []int{1, 0, 0, 7}, [][]int{nil, nil, {1, 2, 3}}
	bids[1] = bid[:2]
	m := api.Market{Reserves: reserves[:2], Bids: bids[:2], Order: order[:2]}
	if !markets.Check(m) {
		t.Errorf("Check(%v) is false", m)
	}
	g, e := markets.Gains(m)
	if e != api.OK || !sameLists(g, [][]int{{-1, -1}, {2, -1}}) {
		t.Errorf("Gains(%v) = %v, %d", m, g, e)
	}
}

// P5.2: what each bidder gains by each item; a loss is told as great as it is.
func TestGains(t *testing.T) {
	for _, c := range []struct {
		m    api.Market
		want [][]int
	}{
		{api.Market{Reserves: []int{3, 1}, Bids: [][]int{{5, 0}, nil}, Order: []int{1, 0}}, [][]int{{2, -1}, {-1, -1}}},
		{example(), [][]int{{2, -1}, {-1, -1}, {6, 7}}},
		{api.Market{Reserves: []int{0}, Bids: [][]int{{0}}, Order: []int{0}}, [][]int{{0}}},
		{api.Market{Reserves: []int{0}, Bids: [][]int{{}}, Order: []int{0}}, [][]int{{-1}}},
		{api.Market{Reserves: []int{5}, Bids: [][]int{{0}, {3}, {4}, {5}, {6}, nil}, Order: []int{0, 1, 2, 3, 4, 5}}, [][]int{{-5}, {-2}, {-1}, {0}, {1}, {-1}}},
		{api.Market{Reserves: []int{1000000, 0, 1000000, 0}, Bids: [][]int{{0, 1000000, 1000000, 0}}, Order: []int{0}}, [][]int{{-1000000, 1000000, 0, 0}}},
		{api.Market{Reserves: make([]int, 8), Bids: make([][]int, 8), Order: []int{0, 1, 2, 3, 4, 5, 6, 7}}, slices.Repeat([][]int{{-1, -1, -1, -1, -1, -1, -1, -1}}, 8)},
	} {
		if g, e := markets.Gains(c.m); e != api.OK || !sameLists(g, c.want) {
			t.Errorf("Gains(%v) = %v, %d, want %v", c.m, g, e, c.want)
		}
	}
}

// gainsOf are the gains of a market that may be, told by the words alone.
func gainsOf(m api.Market) [][]int {
	g := [][]int{}
	for _, bid := range m.Bids {
		row := slices.Repeat([]int{-1}, len(m.Reserves))
		for item := range bid {
			row[item] = bid[item] - m.Reserves[item]
		}
		g = append(g, row)
	}
	return g
}

// P5.2: of markets of each size, each number against each reserve.
func TestGainsOfEachSize(t *testing.T) {
	each(func(m api.Market) {
		if g, e := markets.Gains(m); e != api.OK || !sameLists(g, gainsOf(m)) {
			t.Errorf("Gains(%v) = %v, %d", m, g, e)
		}
	})
	for _, said := range good {
		for _, reserve := range good {
			m := market(8, 8, 0)
			m.Reserves[5], m.Bids[6][5] = reserve, said
			if g, e := markets.Gains(m); e != api.OK || g[6][5] != said-reserve || !sameLists(g, gainsOf(m)) {
				t.Errorf("Gains(%v) = %v, %d", m, g, e)
			}
		}
	}
}

// P5.5: what one gains hangs on nothing but its own bid and the reserves: not on another bid, on the order, on how many there are, on which one it is.
func TestGainsHangOnOwnBid(t *testing.T) {
	each(func(m api.Market) {
		g, _ := markets.Gains(m)
		for bidder, bid := range m.Bids {
			alone, e := markets.Gains(api.Market{Reserves: m.Reserves, Bids: [][]int{bid}, Order: []int{0}})
			if e != api.OK || !sameLists(alone, g[bidder:bidder+1]) {
				t.Errorf("bidder %d of %v gains %v, alone %v, %d", bidder, m, g[bidder], alone, e)
			}
			o := clone(m)
			slices.Reverse(o.Order)
			for other := range o.Bids {
				if other != bidder {
					o.Bids[other] = numbers(len(m.Reserves), other+bidder)
				}
			}
			if h, e := markets.Gains(o); e != api.OK || !slices.Equal(h[bidder], g[bidder]) {
				t.Errorf("bidder %d gains %v in %v, and %v in %v", bidder, g[bidder], m, h, o)
			}
		}
	})
}

// P5.3: the same market, in which that one has no bid, whether it had one or not.
func TestWithout(t *testing.T) {
	each(func(m api.Market) {
		for bidder := range m.Bids {
			want := clone(m)
			want.Bids[bidder] = nil
			o, e := markets.Without(m, bidder)
			if e != api.OK || !same(o, want) || !markets.Check(o) {
				t.Errorf("Without(%v, %d) = %v, %d", m, bidder, o, e)
			}
			if again, e := markets.Without(o, bidder); e != api.OK || !same(again, want) {
				t.Errorf("Without(%v, %d) = %v, %d", o, bidder, again, e)
			}
			if g, e := markets.Gains(o); e != api.OK || !sameLists(g, gainsOf(want)) {
				t.Errorf("Gains(%v) = %v, %d", o, g, e)
			}
		}
	})
}

// P5.3: one behind the other, till nobody bids.
func TestWithoutAll(t *testing.T) {
	m := market(8, 8, 3)
	for bidder := range m.Bids {
		var e api.Errno
		if m, e = markets.Without(m, bidder); e != api.OK {
			t.Fatal(bidder, e)
		}
	}
	if !markets.Check(m) || !sameLists(m.Bids, make([][]int, 8)) || len(m.Reserves) != 8 || len(m.Order) != 8 {
		t.Error(m)
	}
}

// P5.3: of a bidder that is not there.
func TestWithoutNobody(t *testing.T) {
	each(func(m api.Market) {
		for _, bidder := range noBidders(len(m.Bids)) {
			if o, e := markets.Without(m, bidder); bidder < 0 || bidder >= len(m.Bids) {
				if e != api.ErrArg || !empty(o) {
					t.Errorf("Without(%v, %d) = %v, %d", m, bidder, o, e)
				}
			}
		}
	})
}

// P5.4: a market's bytes, byte by byte.
func TestPut(t *testing.T) {
	for _, c := range []struct {
		m    api.Market
		want []byte
	}{
		{api.Market{Reserves: []int{0}, Bids: [][]int{nil}, Order: []int{0}}, []byte{1, 0, 0, 0, 0, 1, 0, 1, 0, 0, 0, 0}},
		{api.Market{Reserves: []int{0}, Bids: [][]int{{}}, Order: []int{0}}, []byte{1, 0, 0, 0, 0, 1, 0, 1, 0, 0, 0, 0}},
		{api.Market{Reserves: []int{258}, Bids: [][]int{{1000000}}, Order: []int{0}}, []byte{1, 2, 1, 0, 0, 1, 1, 64, 66, 15, 0, 1, 0, 0, 0, 0}},
		{api.Market{Reserves: []int{3, 1}, Bids: [][]int{{5, 0}, nil}, Order: []int{1, 0}}, []byte{2, 3, 0, 0, 0, 1, 0, 0, 0, 2, 2, 5, 0, 0, 0, 0, 0, 0, 0, 0, 2, 1, 0, 0, 0, 0, 0, 0, 0}},
	} {
		if b, e := markets.Put(c.m); e != api.OK || !slices.Equal(b, c.want) {
			t.Errorf("Put(%v) = %v, %d, want %v", c.m, b, e, c.want)
		}
		got(t, c.want, c.m, api.OK)
	}
}

// P5.4: of markets of each size the bytes that the words tell; these are as nums puts them.
func TestPutOfEachSize(t *testing.T) {
	each(func(m api.Market) {
		b, e := markets.Put(m)
		if e != api.OK || !slices.Equal(b, bytesOf(m)) {
			t.Errorf("Put(%v) = %v, %d", m, b, e)
		}
		l := nums.Put(nums.PutList(nil, m.Reserves), uint64(len(m.Bids)), 1)
		for _, bid := range m.Bids {
			l = nums.PutList(l, bid)
		}
		if !slices.Equal(b, nums.PutList(l, m.Order)) {
			t.Errorf("Put(%v) is not as nums puts it", m)
		}
	})
}

// P5.4, P5.5: what may be is got as it is put.
func TestWhatMayBeIsGot(t *testing.T) {
	each(func(m api.Market) {
		b, _ := markets.Put(m)
		got(t, b, m, api.OK)
		got(t, bytesOf(m), m, api.OK)
	})
	most := api.Market{Reserves: slices.Repeat([]int{1000000}, 8), Bids: slices.Repeat([][]int{slices.Repeat([]int{1000000}, 8)}, 8), Order: []int{7, 0, 6, 1, 5, 2, 4, 3}}
	b, e := markets.Put(most)
	if e != api.OK || len(b) != 331 {
		t.Errorf("the greatest market takes %d bytes, %d", len(b), e)
	}
	got(t, b, most, api.OK)
}

// P5.4: bytes that are cut are too short at each place.
func TestGetOfCutBytes(t *testing.T) {
	each(func(m api.Market) {
		b := bytesOf(m)
		for cut := range b {
			notGot(t, b[:cut], api.ErrShort)
		}
	})
	notGot(t, nil, api.ErrShort)
	notGot(t, []byte{}, api.ErrShort)
}

// spoilt calls f with markets that may not be, though their bytes are whole.
func spoilt(f func(m api.Market)) {
	none := example()
	none.Reserves = nil
	f(none)
	for _, n := range []int{1000001, 1 << 31, 1<<32 - 1} {
		for at := range 2 {
			m := example()
			m.Reserves[at] = n
			f(m)
			m = example()
			m.Bids[2][at] = n
			f(m)
		}
	}
	for _, bid := range [][]int{{1}, {1, 2, 3}, make([]int, 8), make([]int, 9), make([]int, 255)} {
		for at := range 3 {
			m := example()
			m.Bids[at] = bid
			f(m)
		}
	}
	for _, order := range [][]int{nil, {0}, {1, 2}, {1, 1, 0}, {1, 2, 3}, {1, 2, 1<<32 - 1}, {1, 2, 8}, {1, 2, 256}, {1, 2, 0, 0}, {1, 2, 0, 3}, make([]int, 255)} {
		m := example()
		m.Order = order
		f(m)
	}
	for _, bidders := range []int{0, 9, 10, 255} {
		m := api.Market{Reserves: []int{1}, Bids: make([][]int, bidders)}
		for i := range bidders {
			m.Order = append(m.Order, i)
		}
		f(m)
	}
	for _, items := range []int{9, 10, 255} {
		f(api.Market{Reserves: make([]int, items), Bids: [][]int{nil, make([]int, items)}, Order: []int{1, 0}})
		f(api.Market{Reserves: make([]int, items), Bids: slices.Repeat([][]int{make([]int, items)}, 255), Order: make([]int, 255)})
	}
}

// P5.4: a market that may not be is told as such, of bytes that are whole; of bytes that are cut it is told first that they are.
func TestGetOfWhatMayNotBe(t *testing.T) {
	spoilt(func(m api.Market) {
		mayNotBe(t, m)
		b := bytesOf(m)
		notGot(t, b, api.ErrForm)
		notGot(t, append(b, 0), api.ErrForm)
		for cut := 0; cut < len(b); cut += 1 + len(b)/500 {
			notGot(t, b[:cut], api.ErrShort)
		}
		notGot(t, b[:len(b)-1], api.ErrShort)
	})
}

// P5.4: nothing may stand behind a market.
func TestGetOfMoreBytes(t *testing.T) {
	each(func(m api.Market) {
		b := bytesOf(m)
		for _, more := range [][]byte{{0}, {1}, {255}, {0, 0, 0, 0}, make([]byte, 4096), b} {
			notGot(t, slices.Concat(b, more), api.ErrForm)
		}
	})
}

// P5.4: spare room is not part of what is handed in.
func TestGetIgnoresSpareRoom(t *testing.T) {
	b := bytesOf(example())
	room := append(slices.Clone(b), 1, 2, 3)
	got(t, room[:len(b)], example(), api.OK)
	notGot(t, room[:len(b)-1], api.ErrShort)
	notGot(t, room[:0], api.ErrShort)
}

// P5.5: of any change of one byte, just what stays a market is got, and it is those bytes.
func TestOtherBytesAreOtherMarkets(t *testing.T) {
	for _, m := range []api.Market{example(), market(1, 1, 0), market(4, 2, 1), market(8, 8, 0)} {
		whole := bytesOf(m)
		for at := range whole {
			for n := range 256 {
				asGot(t, slices.Concat(whole[:at], []byte{byte(n)}, whole[at+1:]))
			}
			asGot(t, slices.Delete(slices.Clone(whole), at, at+1))
			asGot(t, slices.Insert(slices.Clone(whole), at, 0))
		}
	}
}

// asGot fails unless Get answers a market that may be and is just these bytes, or the right error and no market; and a market wherever there is one.
func asGot(t *testing.T, b []byte) {
	t.Helper()
	want, e := read(b)
	got(t, b, want, e)
	if e != api.OK {
		return
	}
	if l, f := markets.Put(want); f != api.OK || !slices.Equal(l, b) {
		t.Errorf("%v is got of %v, and put as %v, %d", want, b, l, f)
	}
}

// read is what Get should answer, told by the bytes' places alone.
func read(b []byte) (api.Market, api.Errno) {
	places := 0 // of lists' counts that were passed
	bidders := -1
	var lists [][]int
	for at := 0; bidders < 0 || places < bidders+2; places++ {
		if at >= len(b) {
			return api.Market{}, api.ErrShort
		}
		end := at + 1 + 4*int(b[at])
		if end > len(b) {
			return api.Market{}, api.ErrShort
		}
		l := []int{}
		for ; at+1 < end; at += 4 {
			l = append(l, int(b[at+1])|int(b[at+2])<<8|int(b[at+3])<<16|int(b[at+4])<<24)
		}
		lists, at = append(lists, l), end
		if places == 0 {
			if at >= len(b) {
				return api.Market{}, api.ErrShort
			}
			bidders = int(b[at])
			at++
		}
		if places == bidders+1 && at < len(b) {
			return api.Market{}, api.ErrForm
		}
	}
	m := api.Market{Reserves: lists[0], Bids: lists[1 : bidders+1], Order: lists[bidders+1]}
	if !mayBe(m) {
		return api.Market{}, api.ErrForm
	}
	return m, api.OK
}

// R4: no call changes what it is handed, spare room neither.
func TestNothingIsChanged(t *testing.T) {
	for _, m := range []api.Market{example(), {Reserves: []int{3, 1}, Bids: [][]int{{5, 0}, {1}}, Order: []int{1, 0}}} {
		roomy := api.Market{Reserves: roomyList(m.Reserves), Order: roomyList(m.Order)}
		for _, bid := range m.Bids {
			roomy.Bids = append(roomy.Bids, roomyList(bid))
		}
		roomy.Bids = append(roomy.Bids, []int{77}, []int{78})[:len(m.Bids)]
		before := clone(whole(roomy))
		b := append(bytesOf(m), 1, 2, 3)
		bytesBefore := slices.Clone(b)
		markets.Check(roomy)
		markets.Gains(roomy)
		markets.Put(roomy)
		for bidder := -1; bidder <= 3; bidder++ {
			markets.Without(roomy, bidder)
		}
		for cut := range b {
			markets.Get(b[:cut])
		}
		if after := whole(roomy); !same(after, before) || !slices.Equal(b, bytesBefore) {
			t.Errorf("%v was %v; or %v was %v", after, before, b, bytesBefore)
		}
	}
}

// roomyList is a list with numbers in its spare room.
func roomyList(l []int) []int {
	return append(slices.Clone(l), 91, 92, 93)[:len(l)]
}

// whole is a market with the spare room of all lists in it told as well, as it stands now.
func whole(m api.Market) api.Market {
	bids := slices.Clone(m.Bids[:cap(m.Bids)])
	for i, bid := range bids {
		bids[i] = bid[:cap(bid)]
	}
	return api.Market{Reserves: m.Reserves[:cap(m.Reserves)], Bids: bids, Order: m.Order[:cap(m.Order)]}
}

// spoil writes n over all of l, spare room too.
func spoil[E any](l []E, n E) {
	l = l[:cap(l)]
	for i := range l {
		l[i] = n
	}
}

// spoilLists writes over all lists of numbers, then over the list of them, spare room too.
func spoilLists(l [][]int) {
	for _, one := range l {
		spoil(one, 99)
	}
	spoil(l, []int{99})
}

// spoilMarket writes over all that a market has.
func spoilMarket(m api.Market) {
	spoil(m.Reserves, 99)
	spoilLists(m.Bids)
	spoil(m.Order, 99)
}

// ownLists fails if two of these lists share memory, spare room too.
func ownLists(t *testing.T, what string, lists ...[]int) {
	t.Helper()
	for i, l := range lists {
		spoil(l, i)
	}
	for i, l := range lists {
		for _, n := range l[:cap(l)] {
			if n != i {
				t.Errorf("%s: list %d shares memory with list %d", what, i, n)
			}
		}
	}
}

// R4: lists within one answer share no memory, even where those that were handed in did.
func TestListsShareNoMemory(t *testing.T) {
	each(func(m api.Market) {
		g, _ := markets.Gains(m)
		ownLists(t, "Gains", g...)
		for bidder := range m.Bids {
			o, _ := markets.Without(m, bidder)
			ownLists(t, "Without", append(o.Bids, o.Reserves, o.Order)...)
		}
		o, _ := markets.Get(bytesOf(m))
		ownLists(t, "Get", append(o.Bids, o.Reserves, o.Order)...)
	})
	l := []int{0, 1}
	m := api.Market{Reserves: l, Bids: [][]int{l, l}, Order: l}
	o, e := markets.Without(m, 1)
	if e != api.OK || !same(o, api.Market{Reserves: []int{0, 1}, Bids: [][]int{{0, 1}, nil}, Order: []int{0, 1}}) {
		t.Error(o, e)
	}
	ownLists(t, "Without", append(o.Bids, o.Reserves, o.Order)...)
}

// R4: an answer shares no memory with what was handed in, nor with another answer, and is not changed with them.
func TestAnswersShareNoMemory(t *testing.T) {
	each(func(m api.Market) {
		handed, want := clone(m), clone(m)
		last := len(m.Bids) - 1
		want.Bids[last] = nil
		g, _ := markets.Gains(handed)
		h, _ := markets.Gains(handed)
		o, _ := markets.Without(handed, last)
		p, _ := markets.Without(handed, last)
		b, _ := markets.Put(handed)
		c, _ := markets.Put(handed)
		q, _ := markets.Get(b)
		r, _ := markets.Get(b)
		spoilLists(g)
		spoilMarket(o)
		spoilMarket(q)
		if !same(handed, m) || !slices.Equal(b, bytesOf(m)) {
			t.Errorf("of %v: an answer shares memory with what was handed in", m)
		}
		spoil(b, 99)
		spoilMarket(handed)
		if !sameLists(h, gainsOf(m)) || !same(p, want) || !slices.Equal(c, bytesOf(m)) || !same(r, m) {
			t.Errorf("of %v: two answers share memory, or what was handed in is kept", m)
		}
	})
}

// R1, R2, P5.4, P5.5: any bytes.
func FuzzGet(f *testing.F) {
	for _, m := range []api.Market{example(), market(1, 1, 0), market(8, 8, 0)} {
		b := bytesOf(m)
		f.Add(b)
		f.Add(b[:len(b)/2])
		f.Add(append(b, 0))
	}
	spoilt(func(m api.Market) { f.Add(bytesOf(m)) })
	f.Fuzz(func(t *testing.T, b []byte) { asGot(t, b) })
}

// R1, P5.1 to P5.5: any numbers, of any bidder.
func FuzzNumbers(f *testing.F) {
	f.Add(3, 1, 5, 0, 1, 0, 0)
	f.Add(1000000, 0, 0, 1000000, 0, 1, 1)
	f.Add(-1, math.MinInt, math.MaxInt, 1000001, -1, 2, -1)
	f.Add(1000001, 0, -1, 0, math.MaxInt, math.MinInt, math.MaxInt)
	f.Fuzz(func(t *testing.T, r, s, a, b, first, second, bidder int) {
		m := api.Market{Reserves: []int{r, s}, Bids: [][]int{{a, b}, nil}, Order: []int{first, second}}
		checked(t, m)
		if !mayBe(m) {
			return
		}
		if g, e := markets.Gains(m); e != api.OK || !sameLists(g, gainsOf(m)) {
			t.Errorf("Gains(%v) = %v, %d", m, g, e)
		}
		l, _ := markets.Put(m)
		got(t, l, m, api.OK)
		want, e := clone(m), api.OK
		if bidder < 0 || bidder > 1 {
			want, e = api.Market{}, api.ErrArg
		} else {
			want.Bids[bidder] = nil
		}
		if o, f := markets.Without(m, bidder); f != e || !same(o, want) {
			t.Errorf("Without(%v, %d) = %v, %d", m, bidder, o, f)
		}
	})
}
