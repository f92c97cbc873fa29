package vectors_test

import (
	"math"
	"slices"
	"testing"

	"salesroom/api"
	"salesroom/nums"
	"salesroom/vectors"
)

// good are numbers that may stand in a bid, the edges among them.
var good = []int{0, 1, 2, 5, 255, 256, 65536, 999999, 1000000}

// bad are numbers that may not.
var bad = []int{-1, -2, -1000000, math.MinInt, 1000001, 1000002, 16777216, 1 << 31, 1<<32 - 1, 1 << 32, 1<<32 + 5, math.MaxInt}

// noItems are how many items no market has.
var noItems = []int{0, -1, -2, -8, math.MinInt, 9, 10, 16, 255, 256, 257, 264, 1 << 32, 1<<32 + 2, math.MaxInt}

// bid is one that may be, for so many items; by another seed it is another one.
func bid(items, seed int) []int {
	l := make([]int, items)
	for i := range l {
		l[i] = good[(seed+i*i+i)%len(good)]
	}
	return l
}

// with is l with n at that place, instead of what stood there.
func with(l []int, at, n int) []int {
	l = slices.Clone(l)
	l[at] = n
	return l
}

// bytesOf is a list in bytes, told by the words alone.
func bytesOf(l ...int) []byte {
	b := []byte{byte(len(l))}
	for _, n := range l {
		b = append(b, byte(n), byte(n>>8), byte(n>>16), byte(n>>24))
	}
	return b
}

// got fails unless Get answers these.
func got(t *testing.T, b []byte, items int, want []int, e api.Errno) {
	t.Helper()
	if l, f := vectors.Get(b, items); f != e || !slices.Equal(l, want) {
		t.Errorf("Get(%v, %d) = %v, %d, want %v, %d", b, items, l, f, want, e)
	}
}

// P4.1: each number at each place, in bids of each size; one that may not be is enough, wherever it stands.
func TestCheckOfNumbers(t *testing.T) {
	for items := 1; items <= 8; items++ {
		for seed := range good {
			l := bid(items, seed)
			if !vectors.Check(l, items) {
				t.Errorf("Check(%v, %d) is false", l, items)
			}
		}
		for at := range items {
			for _, n := range good {
				if l := with(bid(items, at), at, n); !vectors.Check(l, items) {
					t.Errorf("Check(%v, %d) is false", l, items)
				}
			}
			for _, n := range bad {
				if l := with(bid(items, at), at, n); vectors.Check(l, items) {
					t.Errorf("Check(%v, %d) is true", l, items)
				}
			}
		}
	}
}

// P4.1: several numbers that may not be do not make up for each other.
func TestCheckOfSeveralBadNumbers(t *testing.T) {
	for _, l := range [][]int{{-1, -1}, {-1, 1000001}, {1000001, -1}, {1000001, 1000001}, {-1, 0, -1}, {0, -1, 1000001}, {-5, 1000005, -5, 1000005}} {
		if vectors.Check(l, len(l)) {
			t.Errorf("Check(%v, %d) is true", l, len(l))
		}
	}
}

// P4.1: as many numbers as items, of which there are 1 to 8: no fewer, no more, and no other many of both.
func TestCheckOfSizes(t *testing.T) {
	sizes := []int{0, 1, 2, 3, 4, 5, 6, 7, 8, 9, 10, 16, 255, 256, 257, 264, 65544}
	for _, size := range sizes {
		for _, items := range append(slices.Clone(noItems), sizes...) {
			want := size == items && items >= 1 && items <= 8
			if vectors.Check(make([]int, size), items) != want {
				t.Errorf("Check(%d noughts, %d) is not %t", size, items, want)
			}
		}
	}
	if vectors.Check(nil, 0) || vectors.Check([]int{}, 0) || vectors.Check(nil, 1) {
		t.Error("a bid without numbers is let be")
	}
}

// P4.1: spare room is not part of a bid.
func TestCheckIgnoresSpareRoom(t *testing.T) {
	room := []int{5, 0, -1, 7}
	if !vectors.Check(room[:2], 2) || vectors.Check(room[:2], 4) || vectors.Check(room[:3], 3) {
		t.Error("of", room)
	}
}

// P4.2: Put is nums.PutList of the bid, byte by byte, of one that may not be, too.
func TestPut(t *testing.T) {
	for _, c := range []struct {
		bid  []int
		want []byte
	}{
		{nil, []byte{0}},
		{[]int{}, []byte{0}},
		{[]int{0}, []byte{1, 0, 0, 0, 0}},
		{[]int{5, 0}, []byte{2, 5, 0, 0, 0, 0, 0, 0, 0}},
		{[]int{1000000}, []byte{1, 64, 66, 15, 0}},
		{[]int{258, 1000001}, []byte{2, 2, 1, 0, 0, 65, 66, 15, 0}},
		{[]int{-1}, []byte{1, 255, 255, 255, 255}},
		{[]int{1<<32 + 5}, []byte{1, 5, 0, 0, 0}},
		{make([]int, 9), append([]byte{9}, make([]byte, 36)...)},
		{make([]int, 300), append([]byte{255}, make([]byte, 1020)...)},
	} {
		if b := vectors.Put(c.bid); !slices.Equal(b, c.want) {
			t.Errorf("Put(%v) = %v, want %v", c.bid, b, c.want)
		}
		if b := vectors.Put(c.bid); !slices.Equal(b, nums.PutList(nil, c.bid)) {
			t.Errorf("Put(%v) = %v is not nums.PutList's", c.bid, b)
		}
	}
}

// P4.2: what is got of bytes, and which error.
func TestGet(t *testing.T) {
	got(t, bytesOf(0), 1, []int{0}, api.OK)
	got(t, bytesOf(5, 0), 2, []int{5, 0}, api.OK)
	got(t, bytesOf(1000000), 1, []int{1000000}, api.OK)
	got(t, bytesOf(1, 2, 3, 4, 5, 6, 7, 8), 8, []int{1, 2, 3, 4, 5, 6, 7, 8}, api.OK)
	got(t, bytesOf(1000001), 1, nil, api.ErrForm)
	got(t, bytesOf(0, 1000001), 2, nil, api.ErrForm)
	got(t, bytesOf(-1), 1, nil, api.ErrForm)
	got(t, bytesOf(5, 0), 3, nil, api.ErrForm)
	got(t, bytesOf(5, 0), 1, nil, api.ErrForm)
	got(t, bytesOf(), 1, nil, api.ErrForm)
	got(t, bytesOf(), 8, nil, api.ErrForm)
	got(t, bytesOf(make([]int, 9)...), 8, nil, api.ErrForm)
	got(t, bytesOf(make([]int, 255)...), 8, nil, api.ErrForm)
	got(t, nil, 2, nil, api.ErrShort)
	got(t, []byte{}, 1, nil, api.ErrShort)
	got(t, []byte{1}, 1, nil, api.ErrShort)
	got(t, []byte{255, 0, 0}, 8, nil, api.ErrShort)
}

// P4.2: how many items there are is asked first, whatever the bytes.
func TestGetForNoMarket(t *testing.T) {
	for _, items := range noItems {
		for _, b := range [][]byte{nil, {}, {0}, {1}, {0, 0}, bytesOf(5), bytesOf(5, 0), bytesOf(-1), append(bytesOf(5), 0), bytesOf(make([]int, 9)...), bytesOf(make([]int, 10)...), bytesOf(make([]int, 255)...)} {
			got(t, b, items, nil, api.ErrArg)
		}
	}
}

// P4.2: bytes that are cut are too short at each place, whatever else is wrong with them.
func TestGetOfCutBytes(t *testing.T) {
	for size := 1; size <= 9; size++ {
		for _, l := range [][]int{make([]int, size), with(make([]int, size), 0, -1), with(make([]int, size), size-1, 1000001)} {
			whole := bytesOf(l...)
			for cut := range whole {
				for items := 1; items <= 8; items++ {
					got(t, whole[:cut], items, nil, api.ErrShort)
				}
			}
		}
	}
}

// P4.2: nothing may stand behind a bid; a byte that is missing does not make room for one.
func TestGetOfMoreBytes(t *testing.T) {
	for items := 1; items <= 8; items++ {
		whole := bytesOf(bid(items, items)...)
		for _, more := range [][]byte{{0}, {1}, {255}, {0, 0, 0, 0}, make([]byte, 256), bytesOf(5)} {
			got(t, slices.Concat(whole, more), items, nil, api.ErrForm)
		}
		got(t, append([]byte{byte(items - 1)}, whole[1:]...), items, nil, api.ErrForm)
		got(t, append([]byte{byte(items + 1)}, whole[1:]...), items, nil, api.ErrShort)
	}
}

// P4.2: each number at each place.
func TestGetOfNumbers(t *testing.T) {
	for items := 1; items <= 8; items++ {
		for at := range items {
			for _, n := range good {
				l := with(bid(items, at), at, n)
				got(t, bytesOf(l...), items, l, api.OK)
			}
			for _, n := range []int{1000001, 1000002, 16777216, 1 << 31, 1<<32 - 1, -1, -1000000} {
				got(t, bytesOf(with(bid(items, at), at, n)...), items, nil, api.ErrForm)
			}
		}
	}
}

// P4.2: spare room is not part of what is handed in.
func TestGetIgnoresSpareRoom(t *testing.T) {
	room := slices.Concat(bytesOf(5, 0), []byte{1, 2, 3})
	got(t, room[:9], 2, []int{5, 0}, api.OK)
	got(t, room[:8], 2, nil, api.ErrShort)
	got(t, room[:0], 2, nil, api.ErrShort)
}

// P4.3: what an item is worth above its reserve: at it, one below, one above, and at the edges of what may be.
func TestWorth(t *testing.T) {
	for _, c := range []struct{ said, reserve, want int }{
		{5, 3, 2},
		{0, 1, -1},
		{0, 0, 0},
		{3, 3, 0},
		{2, 3, -1},
		{4, 3, 1},
		{1, 3, -1},
		{0, 1000000, -1},
		{999999, 1000000, -1},
		{1000000, 1000000, 0},
		{1000000, 999999, 1},
		{1000000, 1, 999999},
		{1000000, 0, 1000000},
	} {
		for items := 1; items <= 8; items++ {
			for at := range items {
				said, reserves := with(bid(items, at), at, c.said), with(bid(items, at+4), at, c.reserve)
				if n := vectors.Worth(said, reserves, at); n != c.want {
					t.Errorf("Worth(%v, %v, %d) = %d, want %d", said, reserves, at, n, c.want)
				}
			}
		}
	}
}

// P4.3: an item that is not in both is worth -1: below 0, behind both, in the bid alone, in the reserves alone.
func TestWorthOfNoItem(t *testing.T) {
	said, reserves := make([]int, 10), make([]int, 10)
	for i := range said {
		said[i], reserves[i] = 100+3*i, i
	}
	for _, bids := range []int{0, 1, 2, 3, 7, 8, 9, 10} {
		for _, costs := range []int{0, 1, 2, 3, 7, 8, 9, 10} {
			for _, item := range []int{math.MinInt, -256, -8, -2, -1, 0, 1, 2, 3, 6, 7, 8, 9, 10, 11, 256, 1 << 32, math.MaxInt} {
				want := -1
				if item >= 0 && item < bids && item < costs {
					want = 100 + 2*item
				}
				if n := vectors.Worth(said[:bids], reserves[:costs], item); n != want {
					t.Errorf("Worth(%d numbers, %d reserves, %d) = %d, want %d", bids, costs, item, n, want)
				}
			}
		}
	}
	if vectors.Worth(nil, nil, 0) != -1 || vectors.Worth([]int{}, []int{}, 0) != -1 || vectors.Worth([]int{5}, nil, 0) != -1 || vectors.Worth(nil, []int{0}, 0) != -1 {
		t.Error("an item of nothing is worth something")
	}
}

// P4.3, R1: numbers that may not be are reckoned with as they are; what is below its reserve is -1 even where a difference would wrap round, and what is not below is never told as such.
func TestWorthOfAnyNumbers(t *testing.T) {
	for _, c := range []struct{ said, reserve, want int }{
		{-3, -5, 2},
		{-5, -5, 0},
		{-6, -5, -1},
		{-1, 0, -1},
		{0, -1, 1},
		{1000001, 0, 1000001},
		{1 << 40, 1, 1<<40 - 1},
		{math.MaxInt, 0, math.MaxInt},
		{math.MaxInt, 1, math.MaxInt - 1},
		{math.MaxInt, math.MaxInt, 0},
		{math.MinInt, math.MinInt, 0},
		{-1, math.MinInt, math.MaxInt},
		{math.MinInt, 0, -1},
		{math.MinInt, 1, -1},
		{math.MinInt, 1000000, -1},
		{math.MinInt, math.MaxInt, -1},
		{-2, math.MaxInt, -1},
		{0, math.MinInt, math.MaxInt},
		{math.MaxInt, -1, math.MaxInt},
		{math.MaxInt, math.MinInt, math.MaxInt},
	} {
		if n := vectors.Worth([]int{c.said}, []int{c.reserve}, 0); n != c.want {
			t.Errorf("Worth(%d, %d, 0) = %d, want %d", c.said, c.reserve, n, c.want)
		}
	}
}

// P4.4: what may be is got as it is put.
func TestWhatMayBeIsGot(t *testing.T) {
	for items := 1; items <= 8; items++ {
		for seed := range good {
			l := bid(items, seed)
			got(t, vectors.Put(l), items, l, api.OK)
		}
	}
	for n := 0; n <= 1000000; n += 37 {
		got(t, vectors.Put([]int{n, 1000000 - n}), 2, []int{n, 1000000 - n}, api.OK)
	}
}

// P4.4: nothing else is: not a bid that may not be, by a number, or by how many it has, nor any for another market.
func TestWhatMayNotBeIsNotGot(t *testing.T) {
	for size := range 12 {
		for items := 1; items <= 8; items++ {
			if size != items {
				got(t, vectors.Put(make([]int, size)), items, nil, api.ErrForm)
			}
		}
		for at := range size {
			for _, n := range bad {
				put := with(make([]int, size), at, n)
				if l, e := vectors.Get(vectors.Put(put), min(size, 8)); slices.Equal(l, put) || len(l) != 0 && e != api.OK {
					t.Errorf("%v is put, and %v, %d got", put, l, e)
				}
			}
		}
	}
	got(t, vectors.Put(make([]int, 256+2)), 2, nil, api.ErrForm)
	got(t, vectors.Put([]int{-1}), 1, nil, api.ErrForm)
	got(t, vectors.Put([]int{1000001}), 1, nil, api.ErrForm)
}

// P4.4: of any change of one byte, just what stays a bid is got, and it is those bytes.
func TestOtherBytesAreOtherBids(t *testing.T) {
	for items := 1; items <= 8; items++ {
		whole := vectors.Put(bid(items, items+2))
		for at := range whole {
			for n := range 256 {
				b := slices.Clone(whole)
				b[at] = byte(n)
				asGot(t, b, items)
			}
		}
	}
}

// asGot fails unless Get answers a bid that may be and is just these bytes, or an error and no bid; and a bid wherever there is one.
func asGot(t *testing.T, b []byte, items int) {
	t.Helper()
	l, e := vectors.Get(b, items)
	if e == api.OK && (!vectors.Check(l, items) || !slices.Equal(vectors.Put(l), b)) {
		t.Errorf("Get(%v, %d) = %v, OK", b, items, l)
	}
	if e != api.OK && len(l) != 0 {
		t.Errorf("Get(%v, %d) = %v, %d", b, items, l, e)
	}
	if want := errorOf(b, items); e != want {
		t.Errorf("Get(%v, %d): %d, want %d", b, items, e, want)
	}
}

// errorOf is the error that Get should answer, told by the bytes' places alone.
func errorOf(b []byte, items int) api.Errno {
	switch {
	case items < 1 || items > 8:
		return api.ErrArg
	case len(b) == 0 || len(b) < 1+4*int(b[0]):
		return api.ErrShort
	case int(b[0]) != items || len(b) != 1+4*items:
		return api.ErrForm
	}
	for i := 1; i < len(b); i += 4 {
		if b[i+3] != 0 || int(b[i])|int(b[i+1])<<8|int(b[i+2])<<16 > 1000000 {
			return api.ErrForm
		}
	}
	return api.OK
}

// The chapter's examples, in a row.
func TestExamples(t *testing.T) {
	if !vectors.Check([]int{5, 0}, 2) || vectors.Check([]int{5, 0}, 3) || vectors.Check([]int{5, 1000001}, 2) || vectors.Check(nil, 0) {
		t.Error("Check")
	}
	if vectors.Worth([]int{5, 0}, []int{3, 1}, 0) != 2 || vectors.Worth([]int{5, 0}, []int{3, 1}, 1) != -1 || vectors.Worth([]int{5, 0}, []int{3}, 1) != -1 {
		t.Error("Worth")
	}
	put := vectors.Put([]int{5, 0})
	got(t, put, 2, []int{5, 0}, api.OK)
	got(t, put, 3, nil, api.ErrForm)
	got(t, nil, 2, nil, api.ErrShort)
	got(t, nil, 9, nil, api.ErrArg)
}

// R4: no call changes what it is handed, spare room neither.
func TestNothingIsChanged(t *testing.T) {
	said, reserves := []int{5, -1, 1000001, 7, 9}, []int{3, 0, 2, 7, 10}
	for n := range 6 {
		vectors.Check(said[:n], n)
		vectors.Put(said[:n])
		for item := range 6 {
			vectors.Worth(said[:n], reserves[:n], item)
		}
	}
	if !slices.Equal(said, []int{5, -1, 1000001, 7, 9}) || !slices.Equal(reserves, []int{3, 0, 2, 7, 10}) {
		t.Error(said, reserves)
	}
	b := slices.Concat(bytesOf(5, 0), bytesOf(-1))
	before := slices.Clone(b)
	for n := range b {
		vectors.Get(b[:n], 2)
		vectors.Get(b[:n], 9)
	}
	if !slices.Equal(b, before) {
		t.Error(b, before)
	}
}

// spoil writes n over all of l, spare room too.
func spoil[E byte | int](l []E, n E) {
	l = l[:cap(l)]
	for i := range l {
		l[i] = n
	}
}

// R4: an answer is memory of its own, spare room too: it shares none with what was handed in, nor with another answer.
func TestAnswersShareNoMemory(t *testing.T) {
	for items := 1; items <= 8; items++ {
		said := append(bid(items, 3), 1, 2, 3)
		want := bytesOf(said[:items]...)
		one, two := vectors.Put(said[:items]), vectors.Put(said[:items])
		spoil(one, 99)
		spoil(said, 99)
		if !slices.Equal(two, want) {
			t.Errorf("Put of %d: two answers share memory, or the bid is kept", items)
		}
		room := append(slices.Clone(want), 1, 2, 3)
		left, _ := vectors.Get(room[:len(want)], items)
		right, _ := vectors.Get(room[:len(want)], items)
		spoil(left, 99)
		if !slices.Equal(room, append(slices.Clone(want), 1, 2, 3)) {
			t.Errorf("Get of %d: the answer shares memory with what was handed in", items)
		}
		spoil(room, 99)
		if !slices.Equal(right, bid(items, 3)) {
			t.Errorf("Get of %d: two answers share memory, or the bytes are kept", items)
		}
	}
	one, two := vectors.Put(nil), vectors.Put([]int{})
	spoil(one, 99)
	if !slices.Equal(two, []byte{0}) {
		t.Error("two answers of nothing share memory")
	}
}

// R1, R2, P4.2, P4.4: any bytes, for any items.
func FuzzGet(f *testing.F) {
	for _, b := range [][]byte{nil, {0}, {1}, bytesOf(5, 0), bytesOf(1000001), append(bytesOf(5), 0), bytesOf(make([]int, 9)...)} {
		for _, items := range []int{0, 1, 2, 8, 9, -1} {
			f.Add(b, items)
		}
	}
	f.Fuzz(asGot)
}

// R1, P4.1, P4.3, P4.4: any numbers, for any items.
func FuzzNumbers(f *testing.F) {
	f.Add(5, 0, 3, 1, 2, 0)
	f.Add(1000000, 1000001, 1000000, -1, 2, 1)
	f.Add(math.MinInt, math.MaxInt, math.MaxInt, math.MinInt, 3, -1)
	f.Fuzz(func(t *testing.T, a, b, c, d, items, item int) {
		said, reserves := []int{a, b}, []int{c, d}
		want := items == 2 && a >= 0 && b >= 0 && a <= 1000000 && b <= 1000000
		if vectors.Check(said, items) != want {
			t.Errorf("Check(%v, %d) is not %t", said, items, want)
		}
		if l, e := vectors.Get(vectors.Put(said), items); want != (e == api.OK && slices.Equal(l, said)) {
			t.Errorf("of %v, for %d, is got %v, %d", said, items, l, e)
		}
		n := vectors.Worth(said, reserves, item)
		if item < 0 || item > 1 || said[item] < reserves[item] {
			if n != -1 {
				t.Errorf("Worth(%v, %v, %d) = %d", said, reserves, item, n)
			}
		} else if n < 0 || n != math.MaxInt && n != said[item]-reserves[item] {
			t.Errorf("Worth(%v, %v, %d) = %d", said, reserves, item, n)
		}
	})
}
