// Package nums is layer 1: numbers as bytes. See doc/01-nums.md.
package nums

import "salesroom/api"

// How many bytes numbers take, and how much those can count.
const (
	wordBytes   = 8 // a number, at most
	entryBytes  = 4 // each number of a list
	countBytes  = 1 // how many numbers a list has
	lengthBytes = 2 // how many bytes there are

	mostNumbers = 1<<(8*countBytes) - 1
	mostBytes   = 1<<(8*lengthBytes) - 1
)

// Put: a number, the lowest byte first, in so many bytes; Get: back. (P1.1)
func Put(b []byte, n uint64, bytes int) []byte {
	return behind(fresh(b), n, min(bytes, wordBytes))
}

// Get: likewise.
func Get(b []byte, bytes int) (uint64, api.Errno) {
	if bytes < 1 || bytes > wordBytes {
		return 0, api.ErrArg
	}
	if len(b) < bytes {
		return 0, api.ErrShort
	}
	return number(b[:bytes:bytes]), api.OK
}

// PutList: how many (one byte), and each in four bytes; GetList: back; how many bytes it took. (P1.2)
func PutList(b []byte, l []int) []byte {
	first := l[:min(len(l), mostNumbers)]
	out := behind(fresh(b), uint64(len(first)), countBytes)
	for _, n := range first {
		out = behind(out, uint64(n), entryBytes)
	}
	return out
}

// GetList: likewise.
func GetList(b []byte) (l []int, took int, e api.Errno) {
	many, e := Get(b, countBytes)
	if e != api.OK {
		return nil, 0, e
	}
	took = countBytes + entryBytes*int(many)
	if len(b) < took {
		return nil, 0, api.ErrShort
	}
	l = make([]int, many)
	for i := range l {
		from := countBytes + entryBytes*i
		to := from + entryBytes
		l[i] = int(number(b[from:to:to]))
	}
	return l, took, api.OK
}

// PutBytes: how many (two bytes), and these; GetBytes: back. (P1.3)
func PutBytes(b, l []byte) []byte {
	first := l[:min(len(l), mostBytes)]
	return append(behind(fresh(b), uint64(len(first)), lengthBytes), first...)
}

// GetBytes: likewise.
func GetBytes(b []byte) (l []byte, took int, e api.Errno) {
	many, e := Get(b, lengthBytes)
	if e != api.OK {
		return nil, 0, e
	}
	took = lengthBytes + int(many)
	if len(b) < took {
		return nil, 0, api.ErrShort
	}
	return fresh(b[lengthBytes:took:took]), took, api.OK
}

// fresh is b in new memory. The cut leaves no room at all, so append has to move b even where nothing comes behind it: neither b nor its spare room is shared.
func fresh(b []byte) []byte {
	return append(b[:0:0], b...)
}

// behind is own, and behind it a number's lowest bytes. It may write into own's spare room: own must be fresh.
func behind(own []byte, n uint64, bytes int) []byte {
	for i := range bytes {
		own = append(own, byte(n>>(8*i)))
	}
	return own
}

// number is what all of these bytes tell, the lowest first; they are 8 at most.
func number(b []byte) uint64 {
	var n uint64
	for i := range len(b) {
		n |= uint64(b[i]) << (8 * i)
	}
	return n
}
