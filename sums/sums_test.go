package sums_test

import (
	"hash/fnv"
	"math"
	"slices"
	"testing"

	"salesroom/sums"
)

// undoer undoes a product with 16777619 (P2.2 says that there is such a number).
const undoer uint32 = 899433627

// everyByte is 0 to 255, in order.
func everyByte() []byte {
	b := make([]byte, 256)
	for i := range b {
		b[i] = byte(i)
	}
	return b
}

// mixed is n bytes without a plain pattern, the same ones at each run.
func mixed(n int) []byte {
	b := make([]byte, n)
	x := uint32(12345)
	for i := range b {
		x = x*1664525 + 1013904223
		b[i] = byte(x >> 24)
	}
	return b
}

// edgeSums are sums at the ends of their range, around the places where bits turn, and some between.
func edgeSums() []uint32 {
	return []uint32{0, 1, 2, 127, 128, 254, 255, 256, 257, 65535, 65536, 16777215, 16777216, 16777618, 16777619, 16777620,
		1<<31 - 1, 1 << 31, 1<<31 + 1, 2166136260, 2166136261, 2166136262, 0xdeadbeef, math.MaxUint32 - 255, math.MaxUint32 - 1, math.MaxUint32}
}

// inputs are bytes of many kinds: none, one, all, long ones.
func inputs() [][]byte {
	return [][]byte{nil, {}, {0}, {1}, {127}, {128}, {255}, {0, 0, 0}, {255, 255, 255, 255}, []byte("a"), []byte("foobar"), []byte("foobaz"),
		everyByte(), mixed(3), mixed(64), mixed(4096), mixed(65537), make([]byte, 1000)}
}

// wideOn is On as the chapter words it, in numbers that are too wide to wrap round.
func wideOn(sum uint32, b []byte) uint32 {
	wide := uint64(sum)
	for _, x := range b {
		high, low := wide/256, wide%256
		wide = (high*256 + (low ^ uint64(x))) * 16777619 % (1 << 32)
	}
	return uint32(wide)
}

// P2.1: sums that are known.
func TestOf(t *testing.T) {
	for _, c := range []struct {
		b    string
		want uint32
	}{
		{"", 2166136261},
		{"a", 3826002220},
		{"fo", 1646454850},
		{"foobar", 3214735720},
		{"\x00", 84696351},
		{"\xff", 2047574606},
		{"\x00\x00\x00\x00", 1268118805},
		{"chongo was here!\n", 3566809301},
	} {
		if got := sums.Of([]byte(c.b)); got != c.want {
			t.Errorf("Of(%q) = %d, want %d", c.b, got, c.want)
		}
	}
}

// P2.1: sums that go on, from the ends of their range too.
func TestOn(t *testing.T) {
	for _, c := range []struct {
		sum  uint32
		b    []byte
		want uint32
	}{
		{0, nil, 0},
		{0, []byte{0, 0, 0}, 0},
		{0, []byte{1}, 16777619},
		{0, []byte{255, 255}, 24651990},
		{1, []byte{0}, 16777619},
		{5, []byte{5, 0, 0}, 0},
		{255, []byte{255}, 0},
		{256, []byte{0}, 103168},
		{1 << 31, []byte{0}, 1 << 31},
		{math.MaxUint32, nil, math.MaxUint32},
		{math.MaxUint32, []byte{0}, 4278189677},
		{math.MaxUint32, []byte{255}, 4294864128},
		{math.MaxUint32, []byte{255, 0, 1}, 441235091},
	} {
		if got := sums.On(c.sum, c.b); got != c.want {
			t.Errorf("On(%d, %v) = %d, want %d", c.sum, c.b, got, c.want)
		}
	}
}

// P2.1: Of is On of 2166136261, and FNV-1a as the library has it.
func TestOfIsOnOfItsStart(t *testing.T) {
	for _, b := range inputs() {
		h := fnv.New32a()
		h.Write(b)
		got := sums.Of(b)
		if got != h.Sum32() || got != sums.On(2166136261, b) {
			t.Errorf("%d bytes: Of %d, On %d, the library %d", len(b), got, sums.On(2166136261, b), h.Sum32())
		}
	}
}

// P2.1: a step of each sum by every byte, and by many bytes, as the chapter words it.
func TestOnIsStepByStep(t *testing.T) {
	for _, sum := range edgeSums() {
		for _, x := range everyByte() {
			if got, want := sums.On(sum, []byte{x}), wideOn(sum, []byte{x}); got != want {
				t.Errorf("On(%d, %d) = %d, want %d", sum, x, got, want)
			}
		}
		for _, b := range inputs() {
			if got, want := sums.On(sum, b), wideOn(sum, b); got != want {
				t.Errorf("On(%d, %d bytes) = %d, want %d", sum, len(b), got, want)
			}
		}
	}
}

// P2.1: no bytes leave a sum as it is, be they nil, empty, or with spare room.
func TestNoBytes(t *testing.T) {
	for _, none := range [][]byte{nil, {}, everyByte()[:0]} {
		if got := sums.Of(none); got != 2166136261 {
			t.Errorf("Of(none) = %d", got)
		}
		for _, sum := range edgeSums() {
			if got := sums.On(sum, none); got != sum {
				t.Errorf("On(%d, none) = %d", sum, got)
			}
		}
	}
}

// P2.1: steps are in order, so bytes cut anywhere have the sum of the whole, and bytes turned round another one.
func TestOnGoesOn(t *testing.T) {
	b := everyByte()
	for _, sum := range edgeSums() {
		whole := sums.On(sum, b)
		for cut := range len(b) + 1 {
			if got := sums.On(sums.On(sum, b[:cut]), b[cut:]); got != whole {
				t.Errorf("from %d, cut at %d: %d, want %d", sum, cut, got, whole)
			}
		}
	}
	if sums.Of([]byte("ab")) == sums.Of([]byte("ba")) {
		t.Error("the order of bytes is lost")
	}
}

// P2.2: 899433627 times 16777619 is 1, and by it each step goes back, from any sum and any byte.
func TestStepsGoBack(t *testing.T) {
	if one := sums.On(undoer, []byte{0}); one != 1 {
		t.Fatalf("On(%d, 0) = %d, want 1", undoer, one)
	}
	for _, sum := range edgeSums() {
		for _, b := range inputs() {
			back := sums.On(sum, b)
			for i := len(b) - 1; i >= 0; i-- {
				back = back*undoer ^ uint32(b[i])
			}
			if back != sum {
				t.Errorf("%d bytes back from %d: %d", len(b), sum, back)
			}
		}
	}
}

// P2.2: one byte that is another one, at any place, makes another sum; all 256 sums differ.
func TestAnotherByteAnotherSum(t *testing.T) {
	for _, sum := range []uint32{0, 1, 255, 1 << 31, 2166136261, math.MaxUint32} {
		for _, b := range [][]byte{{0}, {0, 0, 0}, {255, 255}, []byte("what is sold"), mixed(64)} {
			for place := range b {
				by := map[uint32]int{}
				other := slices.Clone(b)
				for x := range 256 {
					other[place] = byte(x)
					by[sums.On(sum, other)] = x
				}
				if len(by) != 256 {
					t.Errorf("from %d, %d bytes, at %d: %d sums", sum, len(b), place, len(by))
				}
			}
		}
	}
}

// P2.2: sums that differ stay different by the same bytes.
func TestAnotherStartAnotherSum(t *testing.T) {
	for _, b := range inputs() {
		by := map[uint32]int{}
		for i, sum := range edgeSums() {
			by[sums.On(sum, b)] = i
		}
		if len(by) != len(edgeSums()) {
			t.Errorf("%d bytes: %d sums of %d", len(b), len(by), len(edgeSums()))
		}
	}
}

// P2.2: the lowest bits of a sum are as they were, whatever the higher bits of what they were reckoned with.
func TestLowestBitsHangOnLowestBits(t *testing.T) {
	for bits := range 33 {
		mask := uint32(1)<<bits - 1
		for _, sum := range edgeSums() {
			for _, b := range [][]byte{{}, {0}, {255}, []byte("foobar"), everyByte()} {
				want := sums.On(sum, b) & mask
				for _, noise := range []uint32{0, 0xa5a5a5a5, math.MaxUint32} {
					other := slices.Clone(b)
					for i := range other {
						other[i] = byte(uint32(b[i])&mask | noise&^mask)
					}
					if got := sums.On(sum&mask|noise&^mask, other) & mask; got != want {
						t.Errorf("%d bits of %d by %d bytes: %d, want %d", bits, sum, len(b), got, want)
					}
				}
			}
		}
	}
}

// P2.2: noughts make 0 of 0 alone, however many.
func TestNoughts(t *testing.T) {
	for _, many := range []int{0, 1, 2, 3, 4, 31, 32, 33, 64, 255, 256, 4096, 100000} {
		noughts := make([]byte, many)
		for _, sum := range edgeSums() {
			if got := sums.On(sum, noughts); (got == 0) != (sum == 0) {
				t.Errorf("On(%d, %d noughts) = %d", sum, many, got)
			}
		}
		if sums.Of(noughts) == 0 {
			t.Errorf("Of(%d noughts) = 0", many)
		}
	}
}

// R4: what is handed in stays as it was, its spare room too, and spare room is not reckoned with.
func TestBytesStay(t *testing.T) {
	for _, n := range []int{0, 1, 5, 64, 256} {
		room := mixed(n + 40)
		before := slices.Clone(room)
		of, on := sums.Of(room[:n]), sums.On(7, room[:n])
		if !slices.Equal(room, before) {
			t.Errorf("%d bytes: changed", n)
		}
		for i := n; i < len(room); i++ {
			room[i] = ^room[i]
		}
		if sums.Of(room[:n]) != of || sums.On(7, room[:n]) != on {
			t.Errorf("%d bytes: the sum hangs on spare room", n)
		}
	}
}

// R4, R5: nothing is kept from call to call, neither a sum nor bytes.
func TestNothingIsKept(t *testing.T) {
	b := everyByte()
	first := sums.Of(b)
	sums.On(first, []byte("other bytes"))
	clear(b)
	if got := sums.Of(b); got != wideOn(2166136261, b) {
		t.Errorf("of noughts, where other bytes were: %d", got)
	}
	if got := sums.Of(everyByte()); got != first {
		t.Errorf("the same bytes again: %d, want %d", got, first)
	}
}

// P2.1, P2.2, R1: any sum and any bytes, cut anywhere.
func FuzzOn(f *testing.F) {
	for _, sum := range edgeSums() {
		f.Add(sum, []byte("foobar"), 3)
		f.Add(sum, []byte{}, -1)
	}
	f.Fuzz(func(t *testing.T, sum uint32, b []byte, cut int) {
		whole := sums.On(sum, b)
		if whole != wideOn(sum, b) {
			t.Error(whole)
		}
		cut = min(max(cut, 0), len(b))
		if got := sums.On(sums.On(sum, b[:cut]), b[cut:]); got != whole {
			t.Error(got, whole)
		}
		if sum == 2166136261 && sums.Of(b) != whole {
			t.Error(sums.Of(b), whole)
		}
	})
}
