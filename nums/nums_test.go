package nums_test

import (
	"math"
	"slices"
	"testing"

	"salesroom/api"
	"salesroom/nums"
)

const word = 0x8877665544332211

// spoiled is a byte that no input of the memory tests holds.
const spoiled = 0xEE

// upTo is the bytes 1, 2, 3 .., so many (they wrap round).
func upTo(n int) []byte {
	b := make([]byte, n)
	for i := range b {
		b[i] = byte(i + 1)
	}
	return b
}

// numbersUpTo is n numbers that differ, each below 2^32.
func numbersUpTo(n int) []int {
	l := make([]int, n)
	for i := range l {
		l[i] = (i*16777619 + 7) & math.MaxUint32
	}
	return l
}

// P1.1: ordinary numbers, and how many bytes are put at every edge. It stops at the first fault: without a bound the last edge would fill the memory.
func TestPut(t *testing.T) {
	all := []byte{0x11, 0x22, 0x33, 0x44, 0x55, 0x66, 0x77, 0x88}
	for _, c := range []struct {
		b     []byte
		n     uint64
		bytes int
		want  []byte
	}{
		{[]byte{9}, 258, 3, []byte{9, 2, 1, 0}},
		{nil, 0, 1, []byte{0}},
		{nil, 255, 1, []byte{255}},
		{nil, 256, 1, []byte{0}},
		{nil, 258, 1, []byte{2}},
		{nil, math.MaxUint64, 8, []byte{255, 255, 255, 255, 255, 255, 255, 255}},
		{nil, word, 0, nil},
		{[]byte{9, 8}, word, 0, []byte{9, 8}},
		{[]byte{9, 8}, word, -1, []byte{9, 8}},
		{[]byte{9, 8}, word, math.MinInt, []byte{9, 8}},
		{[]byte{9}, word, 7, append([]byte{9}, all[:7]...)},
		{[]byte{9}, word, 8, append([]byte{9}, all...)},
		{[]byte{9}, word, 9, append([]byte{9}, all...)},
		{[]byte{9}, word, 300, append([]byte{9}, all...)},
		{[]byte{9}, word, math.MaxInt, append([]byte{9}, all...)},
	} {
		if got := nums.Put(c.b, c.n, c.bytes); !slices.Equal(got, c.want) {
			t.Fatalf("Put(%v, %d, %d) = %v, want %v", c.b, c.n, c.bytes, got, c.want)
		}
	}
}

// P1.1: what is got, and which error: ErrArg stands ahead of ErrShort.
func TestGet(t *testing.T) {
	nine := upTo(9)
	for _, c := range []struct {
		b     []byte
		bytes int
		n     uint64
		e     api.Errno
	}{
		{[]byte{1, 1}, 2, 257, api.OK},
		{[]byte{1, 1, 7}, 2, 257, api.OK},
		{[]byte{0}, 1, 0, api.OK},
		{[]byte{255}, 1, 255, api.OK},
		{nine, 1, 0x01, api.OK},
		{nine, 4, 0x04030201, api.OK},
		{nine, 8, 0x0807060504030201, api.OK},
		{[]byte{255, 255, 255, 255, 255, 255, 255, 255}, 8, math.MaxUint64, api.OK},
		{[]byte{1}, 2, 0, api.ErrShort},
		{nil, 1, 0, api.ErrShort},
		{[]byte{}, 8, 0, api.ErrShort},
		{nine[:7], 8, 0, api.ErrShort},
		{[]byte{1}, 9, 0, api.ErrArg},
		{nine, 9, 0, api.ErrArg},
		{nine, 0, 0, api.ErrArg},
		{nine, -1, 0, api.ErrArg},
		{nil, 0, 0, api.ErrArg},
		{nil, 9, 0, api.ErrArg},
		{nine, math.MinInt, 0, api.ErrArg},
		{nine, math.MaxInt, 0, api.ErrArg},
	} {
		if n, e := nums.Get(c.b, c.bytes); n != c.n || e != c.e {
			t.Errorf("Get(%v, %d) = %d, %d, want %d, %d", c.b, c.bytes, n, e, c.n, c.e)
		}
	}
}

// P1.1: spare room is not part of what is handed in.
func TestGetIgnoresSpareRoom(t *testing.T) {
	room := upTo(2000)
	if _, e := nums.Get(room[:3], 4); e != api.ErrShort {
		t.Errorf("Get: %d", e)
	}
	if _, _, e := nums.GetList(room[:4]); e != api.ErrShort {
		t.Errorf("GetList: %d", e)
	}
	if _, _, e := nums.GetBytes(room[:4]); e != api.ErrShort {
		t.Errorf("GetBytes: %d", e)
	}
}

// P1.2: each number's lowest 32 bits, whatever the number.
func TestPutList(t *testing.T) {
	for _, c := range []struct {
		b    []byte
		l    []int
		want []byte
	}{
		{nil, nil, []byte{0}},
		{nil, []int{}, []byte{0}},
		{[]byte{9, 8}, nil, []byte{9, 8, 0}},
		{nil, []int{5}, []byte{1, 5, 0, 0, 0}},
		{[]byte{9}, []int{258, 0}, []byte{9, 2, 2, 1, 0, 0, 0, 0, 0, 0}},
		{nil, []int{0x44332211}, []byte{1, 0x11, 0x22, 0x33, 0x44}},
		{nil, []int{1<<32 - 1}, []byte{1, 255, 255, 255, 255}},
		{nil, []int{1 << 32}, []byte{1, 0, 0, 0, 0}},
		{nil, []int{1<<32 + 5}, []byte{1, 5, 0, 0, 0}},
		{nil, []int{-1, -2}, []byte{2, 255, 255, 255, 255, 254, 255, 255, 255}},
		{nil, []int{math.MinInt}, []byte{1, 0, 0, 0, 0}},
		{nil, []int{math.MaxInt}, []byte{1, 255, 255, 255, 255}},
	} {
		if got := nums.PutList(c.b, c.l); !slices.Equal(got, c.want) {
			t.Errorf("PutList(%v, %v) = %v, want %v", c.b, c.l, got, c.want)
		}
	}
}

// P1.2: of more than 255 numbers the first 255, all in their places.
func TestPutListOfMany(t *testing.T) {
	for _, n := range []int{254, 255, 256, 257, 300, 511, 512, 1000} {
		l := numbersUpTo(n)
		kept := min(n, 255)
		b := nums.PutList([]byte{9}, l)
		if len(b) != 2+4*kept || b[0] != 9 || int(b[1]) != kept {
			t.Fatalf("%d numbers: %d bytes, beginning with %v", n, len(b), b[:2])
		}
		for i := range kept {
			if got, e := nums.Get(b[2+4*i:], 4); e != api.OK || int(got) != l[i] {
				t.Fatalf("%d numbers: at %d is %d (%d), want %d", n, i, got, e, l[i])
			}
		}
	}
}

// P1.2: numbers come back as 0 to 2^32 - 1; an error has zero values beside it.
func TestGetList(t *testing.T) {
	for _, c := range []struct {
		b    []byte
		l    []int
		took int
		e    api.Errno
	}{
		{[]byte{1, 5, 0, 0, 0, 7}, []int{5}, 5, api.OK},
		{[]byte{0}, nil, 1, api.OK},
		{[]byte{0, 5, 0}, nil, 1, api.OK},
		{[]byte{2, 5, 0, 0, 0, 255, 255, 255, 255}, []int{5, 1<<32 - 1}, 9, api.OK},
		{[]byte{1, 0, 0, 0, 128}, []int{1 << 31}, 5, api.OK},
		{[]byte{1, 1, 2, 3, 4, 1}, []int{0x04030201}, 5, api.OK},
		{nil, nil, 0, api.ErrShort},
		{[]byte{}, nil, 0, api.ErrShort},
		{[]byte{1}, nil, 0, api.ErrShort},
		{[]byte{1, 5, 0, 0}, nil, 0, api.ErrShort},
		{[]byte{2, 5, 0, 0, 0}, nil, 0, api.ErrShort},
		{[]byte{2, 5, 0, 0, 0, 1, 1, 1}, nil, 0, api.ErrShort},
		{[]byte{255, 5, 0, 0, 0}, nil, 0, api.ErrShort},
	} {
		l, took, e := nums.GetList(c.b)
		if !slices.Equal(l, c.l) || took != c.took || e != c.e {
			t.Errorf("GetList(%v) = %v, %d, %d, want %v, %d, %d", c.b, l, took, e, c.l, c.took, c.e)
		}
	}
}

// P1.3: how many in two bytes, the lowest first.
func TestPutBytes(t *testing.T) {
	for _, c := range []struct{ b, l, want []byte }{
		{nil, []byte("ab"), []byte{2, 0, 'a', 'b'}},
		{nil, nil, []byte{0, 0}},
		{nil, []byte{}, []byte{0, 0}},
		{[]byte{9, 8}, nil, []byte{9, 8, 0, 0}},
		{[]byte{9}, []byte{0}, []byte{9, 1, 0, 0}},
		{[]byte{9}, upTo(258), slices.Concat([]byte{9, 2, 1}, upTo(258))},
	} {
		if got := nums.PutBytes(c.b, c.l); !slices.Equal(got, c.want) {
			t.Errorf("PutBytes(%v, %v) = %v, want %v", c.b, c.l, got, c.want)
		}
	}
}

// P1.3: of more than 65535 bytes the first 65535.
func TestPutBytesOfMany(t *testing.T) {
	for _, n := range []int{65534, 65535, 65536, 65537, 70000, 131073} {
		l := upTo(n)
		kept := min(n, 65535)
		want := slices.Concat([]byte{9, byte(kept), byte(kept >> 8)}, l[:kept])
		if got := nums.PutBytes([]byte{9}, l); !slices.Equal(got, want) {
			t.Errorf("%d bytes: %d are put, beginning with %v", n, len(got), got[:3])
		}
	}
}

// P1.3: an error has zero values beside it, at each place where bytes can end.
func TestGetBytes(t *testing.T) {
	for _, c := range []struct {
		b, l []byte
		took int
		e    api.Errno
	}{
		{[]byte{2, 0, 'a', 'b'}, []byte("ab"), 4, api.OK},
		{[]byte{2, 0, 'a', 'b', 'c'}, []byte("ab"), 4, api.OK},
		{[]byte{0, 0}, nil, 2, api.OK},
		{[]byte{0, 0, 1}, nil, 2, api.OK},
		{slices.Concat([]byte{2, 1}, upTo(300)), upTo(258), 260, api.OK},
		{nil, nil, 0, api.ErrShort},
		{[]byte{}, nil, 0, api.ErrShort},
		{[]byte{0}, nil, 0, api.ErrShort},
		{[]byte{2}, nil, 0, api.ErrShort},
		{[]byte{2, 0}, nil, 0, api.ErrShort},
		{[]byte{2, 0, 1}, nil, 0, api.ErrShort},
		{[]byte{0, 1, 1, 1}, nil, 0, api.ErrShort},
		{slices.Concat([]byte{2, 1}, upTo(257)), nil, 0, api.ErrShort},
		{[]byte{255, 255, 1}, nil, 0, api.ErrShort},
	} {
		l, took, e := nums.GetBytes(c.b)
		if !slices.Equal(l, c.l) || took != c.took || e != c.e {
			t.Errorf("GetBytes(%v) = %v, %d, %d, want %v, %d, %d", c.b, l, took, e, c.l, c.took, c.e)
		}
	}
}

// followers stand behind what was put: nothing, noughts, what looks like more of the same.
func followers() [][]byte {
	return [][]byte{nil, {0}, {255, 255, 255, 255}, upTo(20)}
}

// P1.4 of Put: the lowest bytes are got; all that is shorter is too short.
func TestNumberPutIsGot(t *testing.T) {
	for bytes := 1; bytes <= 8; bytes++ {
		for _, n := range []uint64{0, 1, 255, 256, 258, 1<<32 - 1, 1 << 32, 1 << 63, word, math.MaxUint64} {
			put := nums.Put(nil, n, bytes)
			want := n << (64 - 8*bytes) >> (64 - 8*bytes)
			for _, f := range followers() {
				if got, e := nums.Get(slices.Concat(put, f), bytes); got != want || e != api.OK {
					t.Errorf("%d in %d bytes: got %d, %d", n, bytes, got, e)
				}
			}
			for cut := range len(put) {
				if got, e := nums.Get(put[:cut], bytes); got != 0 || e != api.ErrShort {
					t.Errorf("%d in %d bytes, cut at %d: got %d, %d", n, bytes, cut, got, e)
				}
			}
		}
	}
}

// P1.4 of PutList: at 0, 255 and more than 255 numbers too.
func TestListPutIsGot(t *testing.T) {
	for _, l := range [][]int{nil, {0}, {5}, {1<<32 - 1, 0}, {-1, 1 << 32, math.MinInt, math.MaxInt}, numbersUpTo(254), numbersUpTo(255), numbersUpTo(256), numbersUpTo(300)} {
		put := nums.PutList(nil, l)
		var want []int
		for _, n := range l[:min(len(l), 255)] {
			want = append(want, n&math.MaxUint32)
		}
		for _, f := range followers() {
			got, took, e := nums.GetList(slices.Concat(put, f))
			if !slices.Equal(got, want) || took != len(put) || e != api.OK {
				t.Errorf("%d numbers: got %d, took %d, %d", len(l), len(got), took, e)
			}
		}
		for cut := range len(put) {
			got, took, e := nums.GetList(put[:cut])
			if len(got) != 0 || took != 0 || e != api.ErrShort {
				t.Errorf("%d numbers, cut at %d: got %d, took %d, %d", len(l), cut, len(got), took, e)
			}
		}
	}
}

// P1.4 of PutBytes: at 0, 65535 and more than 65535 bytes too.
func TestBytesPutAreGot(t *testing.T) {
	for _, n := range []int{0, 1, 2, 255, 256, 4096, 65534, 65535, 65536, 70000} {
		l := upTo(n)
		put := nums.PutBytes(nil, l)
		for _, f := range followers() {
			got, took, e := nums.GetBytes(slices.Concat(put, f))
			if !slices.Equal(got, l[:min(n, 65535)]) || took != len(put) || e != api.OK {
				t.Errorf("%d bytes: got %d, took %d, %d", n, len(got), took, e)
			}
		}
		for cut := range len(put) {
			got, took, e := nums.GetBytes(put[:cut])
			if len(got) != 0 || took != 0 || e != api.ErrShort {
				t.Errorf("%d bytes, cut at %d: got %d, took %d, %d", n, cut, len(got), took, e)
			}
		}
	}
}

// P1.4: several that stand behind each other come back by what each took.
func TestWhatIsPutInARow(t *testing.T) {
	b := nums.PutBytes(nums.PutList(nums.Put(nil, 70000, 3), []int{7, 8}), []byte("xyz"))
	n, e := nums.Get(b, 3)
	if n != 70000 || e != api.OK {
		t.Fatal(n, e)
	}
	l, took, e := nums.GetList(b[3:])
	if !slices.Equal(l, []int{7, 8}) || e != api.OK {
		t.Fatal(l, e)
	}
	text, last, e := nums.GetBytes(b[3+took:])
	if string(text) != "xyz" || e != api.OK || 3+took+last != len(b) {
		t.Fatal(text, last, e)
	}
}

// put is a call that puts something behind bytes, by a name.
type put struct {
	name string
	call func(b []byte) []byte
}

// puts are all calls that put, with what is nothing at all among it.
func puts() []put {
	return []put{
		{"Put 0", func(b []byte) []byte { return nums.Put(b, word, 0) }},
		{"Put -1", func(b []byte) []byte { return nums.Put(b, word, -1) }},
		{"Put 1", func(b []byte) []byte { return nums.Put(b, word, 1) }},
		{"Put 8", func(b []byte) []byte { return nums.Put(b, word, 8) }},
		{"PutList 0", func(b []byte) []byte { return nums.PutList(b, nil) }},
		{"PutList 3", func(b []byte) []byte { return nums.PutList(b, []int{1, 2, 3}) }},
		{"PutBytes 0", func(b []byte) []byte { return nums.PutBytes(b, nil) }},
		{"PutBytes 3", func(b []byte) []byte { return nums.PutBytes(b, upTo(3)) }},
	}
}

// spoil writes over all of b, spare room too.
func spoil(b []byte) {
	b = b[:cap(b)]
	for i := range b {
		b[i] = spoiled
	}
}

// R4 of what puts: what is handed in and its spare room stay, and answers share nothing.
func TestPutsShareNoMemory(t *testing.T) {
	for _, p := range puts() {
		for _, n := range []int{0, 1, 5, 64} {
			room := upTo(n + 40)
			before := slices.Clone(room)
			one, two := p.call(room[:n]), p.call(room[:n])
			want := slices.Clone(one)
			if !slices.Equal(room, before) || !slices.Equal(one[:n], before[:n]) {
				t.Errorf("%s behind %d: changed what was handed in", p.name, n)
			}
			spoil(one)
			if !slices.Equal(room, before) {
				t.Errorf("%s behind %d: the answer shares memory with what was handed in", p.name, n)
			}
			if !slices.Equal(two, want) {
				t.Errorf("%s behind %d: two answers share memory", p.name, n)
			}
			spoil(room)
			if !slices.Equal(two, want) {
				t.Errorf("%s behind %d: what was handed in is kept", p.name, n)
			}
		}
	}
}

// R4: empty and nil mean the same, with spare room or without.
func TestEmptyIsAsNil(t *testing.T) {
	for _, p := range puts() {
		want := p.call(nil)
		if !slices.Equal(p.call([]byte{}), want) || !slices.Equal(p.call(upTo(9)[:0]), want) {
			t.Errorf("%s: empty is not as nil", p.name)
		}
	}
	if !slices.Equal(nums.PutList(nil, []int{}), nums.PutList(nil, nil)) || !slices.Equal(nums.PutBytes(nil, []byte{}), nums.PutBytes(nil, nil)) {
		t.Error("an empty list is not as nil")
	}
}

// R4: a list that is put stays as it was, its spare room too, and is not kept.
func TestPutKeepsNoList(t *testing.T) {
	numbers := []int{1, 2, 3, 4, 5}
	b := nums.PutList(nil, numbers[:3])
	if !slices.Equal(numbers, []int{1, 2, 3, 4, 5}) {
		t.Error("PutList changed its list:", numbers)
	}
	room := upTo(20)
	c := nums.PutBytes(nil, room[:3])
	if !slices.Equal(room, upTo(20)) {
		t.Error("PutBytes changed its bytes:", room)
	}
	want := slices.Clone(c)
	spoil(room)
	if !slices.Equal(c, want) {
		t.Error("PutBytes keeps its bytes")
	}
	room = upTo(20)
	c = nums.PutBytes(nil, room[:3])
	spoil(c)
	if !slices.Equal(room, upTo(20)) {
		t.Error("PutBytes answers memory of its bytes")
	}
	numbers[0] = 99
	if b[1] != 1 {
		t.Error("PutList keeps its list")
	}
}

// R4: bytes that stand in the spare room of what they are put behind, or are that itself.
func TestPutBytesOfTheSameMemory(t *testing.T) {
	room := upTo(10)
	if b := nums.PutBytes(room[:2], room[2:5]); !slices.Equal(b, []byte{1, 2, 3, 0, 3, 4, 5}) {
		t.Error(b)
	}
	if b := nums.PutBytes(room[:2], room[:3]); !slices.Equal(b, []byte{1, 2, 3, 0, 1, 2, 3}) {
		t.Error(b)
	}
	if !slices.Equal(room, upTo(10)) {
		t.Error(room)
	}
}

// R4 of what gets: what is handed in and its spare room stay, and answers share nothing.
func TestGetsShareNoMemory(t *testing.T) {
	for n := range 5 {
		room := nums.PutBytes(nil, upTo(n))
		end := len(room)
		room = append(room, upTo(30)...)
		before := slices.Clone(room)
		one, _, _ := nums.GetBytes(room[:end])
		two, _, _ := nums.GetBytes(room[:end])
		if !slices.Equal(room, before) {
			t.Errorf("GetBytes of %d: changed what was handed in", n)
		}
		spoil(one)
		if !slices.Equal(room, before) {
			t.Errorf("GetBytes of %d: the answer shares memory with what was handed in", n)
		}
		spoil(room)
		if !slices.Equal(two, upTo(n)) {
			t.Errorf("GetBytes of %d: two answers share memory, or what was handed in is kept", n)
		}
	}
	room := nums.PutList(nil, []int{1, 2, 3})
	before := slices.Clone(room)
	one, _, _ := nums.GetList(room)
	two, _, _ := nums.GetList(room)
	if n, e := nums.Get(room, 8); n == 0 || e != api.OK || !slices.Equal(room, before) {
		t.Error("Get or GetList: changed what was handed in")
	}
	one[0] = 99
	spoil(room)
	if !slices.Equal(two, []int{1, 2, 3}) {
		t.Error("GetList: two answers share memory, or what was handed in is kept")
	}
}

// R1, P1.2, P1.3: any bytes have an answer, and it is within them.
func FuzzGets(f *testing.F) {
	for _, s := range [][]byte{nil, {0}, {1, 5, 0, 0}, {2, 0, 'a', 'b'}, {255, 255}, upTo(300)} {
		f.Add(s, 2)
		f.Add(s, -1)
		f.Add(s, 9)
	}
	f.Fuzz(func(t *testing.T, b []byte, bytes int) {
		if n, e := nums.Get(b, bytes); e == api.OK && !slices.Equal(nums.Put(nil, n, bytes), b[:bytes]) || e != api.OK && n != 0 {
			t.Error(n, e)
		}
		if l, took, e := nums.GetList(b); e == api.OK && !slices.Equal(nums.PutList(nil, l), b[:took]) || e != api.OK && (len(l) != 0 || took != 0 || e != api.ErrShort) {
			t.Error(l, took, e)
		}
		if l, took, e := nums.GetBytes(b); e == api.OK && !slices.Equal(nums.PutBytes(nil, l), b[:took]) || e != api.OK && (len(l) != 0 || took != 0 || e != api.ErrShort) {
			t.Error(l, took, e)
		}
	})
}
