package disks_test

import (
	"math"
	"slices"
	"testing"

	"salesroom/api"
	"salesroom/disks"
)

// noSector are numbers that no sector has, of a disk with so many.
func noSector(sectors int) []int {
	return []int{-1, -2, -64, math.MinInt, sectors, sectors + 1, sectors + 64, 1 << 32, math.MaxInt}
}

// filled is n bytes, none of them a nought; by another seed (both below 255) they differ at each place.
func filled(n, seed int) []byte {
	b := make([]byte, n)
	for i := range b {
		b[i] = byte(1 + (seed+i)%255)
	}
	return b
}

// ofSector is a sector's worth of bytes; those of sectors near each other, and of sectors a power of two apart, differ.
func ofSector(n int) []byte {
	return filled(64, n%251)
}

// padded is b as a whole sector tells it: with noughts behind it.
func padded(b []byte) []byte {
	return append(slices.Clone(b), make([]byte, 64-len(b))...)
}

// made is a new disk of so many sectors.
func made(t *testing.T, n int) *disks.Disk {
	t.Helper()
	d, e := disks.New(n)
	if e != api.OK || d == nil {
		t.Fatalf("New(%d) = %v, %d", n, d, e)
	}
	return d
}

// written is a disk of so many sectors, each with its own bytes (ofSector).
func written(t *testing.T, n int) *disks.Disk {
	t.Helper()
	d := made(t, n)
	for i := range n {
		write(t, d, i, ofSector(i))
	}
	return d
}

// blown is a disk of three sectors, each with its own bytes (ofSector), whose fuse a write at sector 1 blew.
func blown(t *testing.T) *disks.Disk {
	t.Helper()
	d := written(t, 3)
	fuse(t, d, 0)
	if e := d.Write(1, []byte("never")); e != api.ErrState {
		t.Fatalf("a write with a fuse of 0: %d", e)
	}
	return d
}

// write is a write that must be OK.
func write(t *testing.T, d *disks.Disk, n int, b []byte) {
	t.Helper()
	if e := d.Write(n, b); e != api.OK {
		t.Fatalf("Write(%d, %d bytes) = %d", n, len(b), e)
	}
}

// fuse is a Fuse that must be OK.
func fuse(t *testing.T, d *disks.Disk, n int) {
	t.Helper()
	if e := d.Fuse(n); e != api.OK {
		t.Fatalf("Fuse(%d) = %d", n, e)
	}
}

// copied is a Copy that must be OK.
func copied(t *testing.T, d *disks.Disk) *disks.Disk {
	t.Helper()
	c, e := d.Copy()
	if e != api.OK || c == nil {
		t.Fatalf("Copy = %v, %d", c, e)
	}
	return c
}

// holds fails unless that sector is b, with noughts behind it.
func holds(t *testing.T, d *disks.Disk, n int, b []byte) {
	t.Helper()
	if got, e := d.Read(n); e != api.OK || !slices.Equal(got, padded(b)) {
		t.Errorf("Read(%d) = %v, %d, want %v", n, got, e, padded(b))
	}
}

// tells fails unless the disk tells these.
func tells(t *testing.T, d *disks.Disk, sectors, writes int, isBlown bool) {
	t.Helper()
	if d.Len() != sectors || d.Writes() != writes || d.Blown() != isBlown {
		t.Errorf("Len %d, Writes %d, Blown %t, want %d, %d, %t", d.Len(), d.Writes(), d.Blown(), sectors, writes, isBlown)
	}
}

// letsJust fails unless the fuse lets just so many writes more be. It blows it.
func letsJust(t *testing.T, d *disks.Disk, many int) {
	t.Helper()
	for i := range many {
		if e := d.Write(0, nil); e != api.OK || d.Blown() {
			t.Fatalf("write %d of %d: %d, blown: %t", i+1, many, e, d.Blown())
		}
	}
	if e := d.Write(0, nil); e != api.ErrState || !d.Blown() {
		t.Fatalf("a write behind %d: %d, blown: %t", many, e, d.Blown())
	}
}

// P3.1: no sectors, or more than there may be, are no disk.
func TestNewOfTooFewOrTooMany(t *testing.T) {
	for _, n := range []int{0, -1, -1024, math.MinInt, 1025, 1026, 2048, 1 << 20, 1 << 32, 1<<32 + 1, math.MaxInt} {
		if d, e := disks.New(n); d != nil || e != api.ErrArg {
			t.Errorf("New(%d) = %v, %d", n, d, e)
		}
	}
}

// P3.1: all noughts, from the first sector to the last, and nothing was written.
func TestNewIsNoughts(t *testing.T) {
	for _, n := range []int{1, 2, 63, 64, 65, 200, 1023, 1024} {
		d := made(t, n)
		tells(t, d, n, 0, false)
		for i := range n {
			holds(t, d, i, nil)
		}
	}
}

// P3.1: the fuse of a new disk lets all be, as far as a test can go.
func TestNewLetsAllBe(t *testing.T) {
	d := made(t, 2)
	for i := range 70000 {
		if e := d.Write(i%2, []byte{byte(i)}); e != api.OK {
			t.Fatalf("write %d: %d", i+1, e)
		}
	}
	tells(t, d, 2, 70000, false)
}

// P3.2: no bytes, some, just as many as a sector has, at the first sector, the last and between; no other sector is touched.
func TestWhatIsWrittenIsRead(t *testing.T) {
	for _, sectors := range []int{1, 2, 3, 64, 1024} {
		for _, at := range []int{0, sectors / 2, sectors - 1} {
			d := made(t, sectors)
			for done, n := range []int{64, 0, 1, 63, 2, 64, 32} {
				b := filled(n, done*7)
				write(t, d, at, b)
				holds(t, d, at, b)
				tells(t, d, sectors, done+1, false)
			}
			for i := range sectors {
				if i != at {
					holds(t, d, i, nil)
				}
			}
		}
	}
}

// P3.2: each sector has its own bytes, however they were written.
func TestSectorsAreApart(t *testing.T) {
	d := written(t, 1024)
	tells(t, d, 1024, 1024, false)
	for i := range 1024 {
		holds(t, d, i, ofSector(i))
	}
	write(t, d, 500, []byte("x"))
	holds(t, d, 499, ofSector(499))
	holds(t, d, 500, []byte("x"))
	holds(t, d, 501, ofSector(501))
}

// P3.2: all byte values come back, noughts among and behind others too.
func TestEveryByteIsRead(t *testing.T) {
	d := made(t, 4)
	for i := range 4 {
		b := make([]byte, 64)
		for j := range b {
			b[j] = byte(64*i + j)
		}
		write(t, d, i, b)
		holds(t, d, i, b)
	}
	for _, b := range [][]byte{{0}, {0, 0, 0}, {0, 1, 0}, {255, 0, 255, 0}, make([]byte, 64)} {
		write(t, d, 3, filled(64, 9))
		write(t, d, 3, b)
		holds(t, d, 3, b)
	}
}

// P3.2: less behind more leaves noughts, not what was there.
func TestNoughtsBehind(t *testing.T) {
	d := made(t, 1)
	for n := 64; n >= 0; n-- {
		write(t, d, 0, filled(64, 3))
		write(t, d, 0, filled(n, 5))
		holds(t, d, 0, filled(n, 5))
	}
	write(t, d, 0, filled(64, 3))
	write(t, d, 0, nil)
	holds(t, d, 0, nil)
}

// P3.2: a sector that is not there, and more bytes than it has, are ErrArg; nothing is changed, the fuse neither.
func TestWritesThatMayNotBe(t *testing.T) {
	for _, sectors := range []int{1, 3, 1024} {
		d := written(t, sectors)
		fuse(t, d, 2)
		for _, n := range noSector(sectors) {
			for _, b := range [][]byte{nil, {1}, filled(64, 1), filled(65, 1)} {
				if e := d.Write(n, b); e != api.ErrArg {
					t.Errorf("of %d: Write(%d, %d bytes) = %d", sectors, n, len(b), e)
				}
			}
		}
		for _, many := range []int{65, 66, 128, 256, 4096, 65600} {
			if e := d.Write(sectors-1, filled(many, 1)); e != api.ErrArg {
				t.Errorf("of %d: Write(%d bytes) = %d", sectors, many, e)
			}
			if e := d.Write(0, make([]byte, many)); e != api.ErrArg {
				t.Errorf("of %d: Write(%d noughts) = %d", sectors, many, e)
			}
		}
		tells(t, d, sectors, sectors, false)
		for i := range sectors {
			holds(t, d, i, ofSector(i))
		}
		letsJust(t, d, 2)
	}
}

// P3.2: a sector that is not there has no bytes.
func TestReadsThatMayNotBe(t *testing.T) {
	for _, d := range []*disks.Disk{made(t, 1), written(t, 3), made(t, 1024), blown(t)} {
		for _, n := range noSector(d.Len()) {
			if b, e := d.Read(n); len(b) != 0 || e != api.ErrArg {
				t.Errorf("of %d: Read(%d) = %v, %d", d.Len(), n, b, e)
			}
		}
	}
}

// P3.2: ErrArg stands ahead of ErrState, and what is ErrArg does not blow a fuse that lets none be.
func TestArgumentsAheadOfTheFuse(t *testing.T) {
	d := written(t, 3)
	fuse(t, d, 0)
	if d.Write(3, nil) != api.ErrArg || d.Write(-1, nil) != api.ErrArg || d.Write(0, filled(65, 1)) != api.ErrArg || d.Blown() {
		t.Errorf("with a fuse of 0, blown: %t", d.Blown())
	}
	fuse(t, d, 1)
	letsJust(t, d, 1)
	if d.Write(3, nil) != api.ErrArg || d.Write(-1, nil) != api.ErrArg || d.Write(0, filled(65, 1)) != api.ErrArg || !d.Blown() {
		t.Errorf("with a blown fuse, blown: %t", d.Blown())
	}
}

// P3.2, P3.3: a fuse of 0 is not blown by being set, but by a write; nothing is written by that, or by any behind it.
func TestFuseOfNone(t *testing.T) {
	d := written(t, 3)
	fuse(t, d, 0)
	tells(t, d, 3, 3, false)
	for i := range 5 {
		if e := d.Write(i%3, []byte("never")); e != api.ErrState {
			t.Errorf("write %d: %d", i+1, e)
		}
		tells(t, d, 3, 3, true)
	}
	for i := range 3 {
		holds(t, d, i, ofSector(i))
	}
}

// P3.2, P3.3: a fuse that has let its last write be is not blown yet: the next one blows it.
func TestFuseOfOne(t *testing.T) {
	d := made(t, 2)
	fuse(t, d, 1)
	write(t, d, 0, []byte("b"))
	tells(t, d, 2, 1, false)
	if e := d.Write(0, []byte("c")); e != api.ErrState {
		t.Error(e)
	}
	tells(t, d, 2, 1, true)
	holds(t, d, 0, []byte("b"))
}

// P3.2: a write of no bytes is a write too: it uses the fuse up, and blows it.
func TestWritesOfNothingCount(t *testing.T) {
	d := written(t, 1)
	fuse(t, d, 1)
	write(t, d, 0, nil)
	tells(t, d, 1, 2, false)
	if e := d.Write(0, nil); e != api.ErrState || !d.Blown() {
		t.Errorf("%d, blown: %t", e, d.Blown())
	}
	holds(t, d, 0, nil)
}

// P3.3: a fuse lets n writes more be, whatever it let be, and however many were OK.
func TestFuseIsSetAnew(t *testing.T) {
	for _, first := range []int{-1, 0, 1, 2, 9, math.MaxInt, math.MinInt} {
		for _, second := range []int{0, 1, 2, 3, 7, 64, 300} {
			d := written(t, 3)
			fuse(t, d, first)
			fuse(t, d, second)
			letsJust(t, d, second)
			tells(t, d, 3, 3+second, true)
		}
	}
	d := made(t, 1)
	fuse(t, d, 5)
	write(t, d, 0, nil)
	write(t, d, 0, nil)
	fuse(t, d, 2)
	letsJust(t, d, 2)
}

// P3.3: a fuse below 0 lets all be, from whichever number it comes; so does a great one, as far as a test can go.
func TestFuseOfAll(t *testing.T) {
	for _, n := range []int{-1, -2, -5, math.MinInt, math.MinInt + 1, math.MaxInt, 1 << 32} {
		for _, first := range []int{-1, 0, 3} {
			d := made(t, 1)
			fuse(t, d, first)
			fuse(t, d, n)
			for i := range 2000 {
				write(t, d, 0, []byte{byte(i)})
			}
			tells(t, d, 1, 2000, false)
		}
	}
}

// P3.3: a blown fuse stays blown, whatever is asked of it.
func TestBlownStays(t *testing.T) {
	d := blown(t)
	for _, n := range []int{-1, 0, 1, 9, math.MinInt, math.MaxInt} {
		if e := d.Fuse(n); e != api.ErrState {
			t.Errorf("Fuse(%d) = %d", n, e)
		}
		if e := d.Write(2, []byte("never")); e != api.ErrState {
			t.Errorf("a write behind Fuse(%d): %d", n, e)
		}
		tells(t, d, 3, 3, true)
	}
	for i := range 3 {
		holds(t, d, i, ofSector(i))
	}
}

// P3.3: Writes counts what was OK, and nothing else that is called.
func TestWritesCountsWhatWasOK(t *testing.T) {
	d := made(t, 2)
	for i := range 10 {
		write(t, d, i%2, nil)
		d.Read(0)
		d.Read(9)
		d.Write(2, nil)
		d.Write(0, filled(65, 1))
		d.Fuse(-1)
		d.Copy()
		tells(t, d, 2, i+1, false)
	}
	fuse(t, d, 0)
	d.Write(0, nil)
	d.Write(0, nil)
	tells(t, d, 2, 10, true)
}

// P3.3: what only asks uses nothing of the fuse up.
func TestAskingUsesNothingUp(t *testing.T) {
	d := written(t, 2)
	fuse(t, d, 3)
	for range 10 {
		tells(t, d, 2, 2, false)
		holds(t, d, 1, ofSector(1))
		copied(t, d)
		d.Read(2)
	}
	letsJust(t, d, 3)
}

// P3.4: a copy has the same bytes, a fuse that lets all be, and no write, whatever the disk's own; the disk stays as it was.
func TestCopy(t *testing.T) {
	for _, sectors := range []int{1, 2, 3, 1024} {
		for _, left := range []int{-1, 0, 1, 7} {
			d := written(t, sectors)
			fuse(t, d, left)
			c := copied(t, d)
			tells(t, c, sectors, 0, false)
			for i := range sectors {
				holds(t, c, i, ofSector(i))
			}
			for range 100 {
				write(t, c, sectors-1, []byte("c"))
			}
			tells(t, c, sectors, 100, false)
			tells(t, d, sectors, sectors, false)
			holds(t, d, sectors-1, ofSector(sectors-1))
			if left >= 0 {
				letsJust(t, d, left)
			}
			tells(t, c, sectors, 100, false)
		}
	}
}

// P3.4: a copy of a disk whose fuse is blown is a disk like any other; the blown one stays so.
func TestCopyOfABlownDisk(t *testing.T) {
	d := blown(t)
	c := copied(t, d)
	tells(t, c, 3, 0, false)
	for i := range 3 {
		holds(t, c, i, ofSector(i))
	}
	for range 100 {
		write(t, c, 1, []byte("c"))
	}
	holds(t, c, 1, []byte("c"))
	fuse(t, c, 2)
	letsJust(t, c, 2)
	holds(t, d, 1, ofSector(1))
	tells(t, d, 3, 3, true)
	if e := d.Write(1, nil); e != api.ErrState {
		t.Error("the blown one writes:", e)
	}
}

// P3.4, R5: a copy is as the disk was then, and a disk of its own, both ways; so is a copy of a copy.
func TestCopyIsApart(t *testing.T) {
	d := written(t, 2)
	c := copied(t, d)
	cc := copied(t, c)
	write(t, d, 0, []byte("d"))
	write(t, c, 1, []byte("c"))
	fuse(t, cc, 0)
	cc.Write(0, []byte("never"))
	holds(t, d, 0, []byte("d"))
	holds(t, d, 1, ofSector(1))
	holds(t, c, 0, ofSector(0))
	holds(t, c, 1, []byte("c"))
	holds(t, cc, 0, ofSector(0))
	holds(t, cc, 1, ofSector(1))
	tells(t, d, 2, 3, false)
	tells(t, c, 2, 1, false)
	tells(t, cc, 2, 0, true)
}

// P3.5: of the writes that may be, just the first ones are let be; each is whole, or not there. Those that may not be are strewn in between.
func TestJustTheFirstWritesAreLetBe(t *testing.T) {
	const all = 12
	for lets := range all + 2 {
		d := written(t, all)
		fuse(t, d, lets)
		for i := range all {
			d.Write(all, filled(64, 99))
			d.Write(i, filled(65, 99))
			want := api.OK
			if i >= lets {
				want = api.ErrState
			}
			if e := d.Write(i, filled(i*5, 100)); e != want {
				t.Errorf("of %d: write %d: %d, want %d", lets, i+1, e, want)
			}
			tells(t, d, all, all+min(i+1, lets), i >= lets)
		}
		for i := range all {
			if i < lets {
				holds(t, d, i, filled(i*5, 100))
			} else {
				holds(t, d, i, ofSector(i))
			}
		}
	}
}

// The chapter's examples, in a row.
func TestExamples(t *testing.T) {
	d := made(t, 2)
	write(t, d, 0, []byte("a"))
	holds(t, d, 0, []byte("a"))
	if d.Write(2, []byte("a")) != api.ErrArg || d.Write(0, make([]byte, 65)) != api.ErrArg {
		t.Error("ErrArg")
	}
	fuse(t, d, 1)
	write(t, d, 0, []byte("b"))
	tells(t, d, 2, 2, false)
	if d.Write(0, []byte("c")) != api.ErrState || !d.Blown() {
		t.Error("ErrState")
	}
	holds(t, d, 0, []byte("b"))
	write(t, copied(t, d), 0, []byte("d"))
	if d.Fuse(-1) != api.ErrState || d.Writes() != 2 {
		t.Error("Fuse(-1), Writes:", d.Writes())
	}
	holds(t, d, 0, []byte("b"))
}

// R3: a disk that is not there, and one that no call made, answer ErrNil, ahead of any other error, and zero values; and they do nothing.
func TestDisksThatAreNotThere(t *testing.T) {
	for name, d := range map[string]*disks.Disk{"nil": nil, "zero": {}, "new": new(disks.Disk)} {
		for range 2 {
			for _, n := range []int{0, -1, 1, 1024, math.MinInt, math.MaxInt} {
				if e := d.Fuse(n); e != api.ErrNil {
					t.Errorf("%s: Fuse(%d) = %d", name, n, e)
				}
				if b, e := d.Read(n); len(b) != 0 || e != api.ErrNil {
					t.Errorf("%s: Read(%d) = %v, %d", name, n, b, e)
				}
				for _, b := range [][]byte{nil, {1}, filled(64, 1), filled(65, 1)} {
					if e := d.Write(n, b); e != api.ErrNil {
						t.Errorf("%s: Write(%d, %d bytes) = %d", name, n, len(b), e)
					}
				}
			}
			if c, e := d.Copy(); c != nil || e != api.ErrNil {
				t.Errorf("%s: Copy = %v, %d", name, c, e)
			}
			tells(t, d, 0, 0, false)
		}
	}
}

// R4: bytes that are written stay as they were, their spare room too, and are not kept.
func TestWriteKeepsNoBytes(t *testing.T) {
	d := made(t, 1)
	for _, n := range []int{0, 1, 5, 63, 64} {
		room := filled(n+40, 7)
		write(t, d, 0, room[:n])
		if !slices.Equal(room, filled(n+40, 7)) {
			t.Errorf("%d bytes: changed", n)
		}
		for i := range room {
			room[i] = 255
		}
		holds(t, d, 0, filled(n, 7))
	}
	fuse(t, d, 0)
	room := filled(104, 7)
	d.Write(0, room[:64])
	d.Write(0, room[:65])
	d.Write(9, room[:64])
	if !slices.Equal(room, filled(104, 7)) {
		t.Error("a write that was not let be changed its bytes")
	}
}

// R4: what was read is new memory, its spare room too: it stays when the sector is written, and the disk, its copies and other answers stay when it is changed.
func TestReadSharesNoMemory(t *testing.T) {
	d := written(t, 2)
	c := copied(t, d)
	one, _ := d.Read(0)
	two, _ := d.Read(0)
	whole := one[:cap(one)]
	for i := range whole {
		whole[i] = 255
	}
	holds(t, d, 0, ofSector(0))
	holds(t, d, 1, ofSector(1))
	holds(t, c, 0, ofSector(0))
	if !slices.Equal(two, ofSector(0)) {
		t.Error("two answers share memory")
	}
	write(t, d, 0, []byte("later"))
	if !slices.Equal(two, ofSector(0)) {
		t.Error("what was read changed by a later write")
	}
}

// R4: empty and nil mean the same, with spare room or without.
func TestEmptyIsAsNil(t *testing.T) {
	for _, none := range [][]byte{nil, {}, filled(64, 1)[:0]} {
		d := written(t, 1)
		write(t, d, 0, none)
		holds(t, d, 0, nil)
		tells(t, d, 1, 2, false)
	}
}

// R5: two disks share nothing: neither bytes, nor fuse, nor what they tell.
func TestTwoDisksShareNothing(t *testing.T) {
	one, two := made(t, 3), made(t, 2)
	b := filled(64, 1)
	write(t, one, 0, b)
	write(t, two, 0, b)
	write(t, one, 0, []byte("one"))
	fuse(t, one, 0)
	one.Write(1, nil)
	holds(t, two, 0, b)
	tells(t, one, 3, 2, true)
	tells(t, two, 2, 1, false)
	write(t, two, 1, nil)
	holds(t, made(t, 3), 0, nil)
}

// plain is a disk as the chapter words it: what is let be is counted from how many were OK when the fuse was set.
type plain struct {
	bytes  map[int]string // by sectors; none: noughts
	len    int
	ok     int
	end    int // the fuse lets be up to so many that are OK, in all
	noEnd  bool
	burned bool
}

// write is what Write should answer.
func (p *plain) write(n int, b []byte) api.Errno {
	if n < 0 || n >= p.len || len(b) > 64 {
		return api.ErrArg
	}
	if p.burned || !p.noEnd && p.ok == p.end {
		p.burned = true
		return api.ErrState
	}
	p.bytes[n] = string(padded(b))
	p.ok++
	return api.OK
}

// fuse is what Fuse should answer.
func (p *plain) fuse(n int) api.Errno {
	if p.burned {
		return api.ErrState
	}
	p.noEnd, p.end = n < 0, p.ok+n
	return api.OK
}

// copied is what Copy should make.
func (p *plain) copied() *plain {
	c := &plain{bytes: map[int]string{}, len: p.len, noEnd: true}
	for n, b := range p.bytes {
		c.bytes[n] = b
	}
	return c
}

// same fails unless the disk is as p, sector by sector.
func same(t *testing.T, d *disks.Disk, p *plain) {
	t.Helper()
	tells(t, d, p.len, p.ok, p.burned)
	for i := range p.len {
		holds(t, d, i, []byte(p.bytes[i]))
	}
}

// play takes each two bytes of a play as a call, of the disk and of a plain one, and holds them against each other. Of a copy the play goes on, and the disk it was made of must stay as it was.
func play(t *testing.T, sectors int, calls []byte) {
	t.Helper()
	p := &plain{bytes: map[int]string{}, len: sectors, noEnd: true}
	d := made(t, sectors)
	for i := 0; i+1 < len(calls); i += 2 {
		what, with := calls[i]%16, int(calls[i+1])
		switch {
		case what == 0:
			if n := with%8 - 1; d.Fuse(n) != p.fuse(n) {
				t.Fatalf("call %d: Fuse(%d)", i/2, n)
			}
		case what == 1:
			c, pc := copied(t, d), p.copied()
			same(t, d, p)
			if d.Write(0, []byte{1}) != p.write(0, []byte{1}) {
				t.Fatalf("call %d: a write behind Copy", i/2)
			}
			same(t, d, p)
			d, p = c, pc
		default:
			n, b := with%(sectors+2)-1, filled(with%67, i)
			if got, want := d.Write(n, b), p.write(n, b); got != want {
				t.Fatalf("call %d: Write(%d, %d bytes) = %d, want %d", i/2, n, len(b), got, want)
			}
		}
		same(t, d, p)
	}
}

// P3.1 to P3.5, R5: calls in many orders, the same ones at each run, against a disk as the chapter words it.
func TestPlays(t *testing.T) {
	x := uint32(12345)
	for round := range 300 {
		calls := make([]byte, 80)
		for i := range calls {
			x = x*1664525 + 1013904223
			calls[i] = byte(x >> 24)
		}
		play(t, 1+round%5, calls)
	}
}

// P3.1 to P3.5, R1: any calls, in any order.
func FuzzPlays(f *testing.F) {
	f.Add(2, []byte{2, 1, 0, 2, 2, 1, 2, 2, 1, 0, 2, 1})
	f.Add(1024, []byte{0, 1, 2, 1, 1, 0, 2, 65})
	f.Add(0, []byte{})
	f.Fuzz(func(t *testing.T, sectors int, calls []byte) {
		d, e := disks.New(sectors)
		if fits := sectors >= 1 && sectors <= 1024; (d != nil) != fits || (e == api.OK) != fits || !fits && e != api.ErrArg {
			t.Fatalf("New(%d) = %v, %d", sectors, d, e)
		}
		if e == api.OK {
			play(t, 1+sectors%6, calls[:min(len(calls), 200)])
		}
	})
}

// R1: any sector and any bytes have an answer, before the fuse blows and behind that.
func FuzzWrite(f *testing.F) {
	for _, n := range append(noSector(3), 0, 1, 2) {
		f.Add(n, []byte("ab"), 1)
		f.Add(n, filled(65, 1), 0)
		f.Add(n, filled(64, 1), -1)
	}
	f.Fuzz(func(t *testing.T, n int, b []byte, lets int) {
		d := made(t, 3)
		fuse(t, d, lets)
		want := api.OK
		if n < 0 || n > 2 || len(b) > 64 {
			want = api.ErrArg
		} else if lets == 0 {
			want = api.ErrState
		}
		if e := d.Write(n, b); e != want || d.Blown() != (want == api.ErrState) {
			t.Fatalf("Write(%d, %d bytes) = %d, blown: %t", n, len(b), e, d.Blown())
		}
		if want == api.OK {
			holds(t, d, n, b)
		}
	})
}
