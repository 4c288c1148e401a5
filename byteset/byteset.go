// Package byteset: sets of bytes. See DOC.md, chapter 1.
package byteset

import (
	"temple/api"
)

const (
	// lastByte is the greatest byte.
	lastByte = 255
	// wordBits is how many bytes one word of a set tells of.
	wordBits = 64
)

// Range is the set of the bytes from lo to hi; ErrSetForm, if these are not
// the ends of a range of bytes.
func Range(lo int, hi int) (api.Bytes, api.Errno) {
	if lo < 0 || hi > lastByte || lo > hi {
		return api.Bytes{}, api.ErrSetForm
	}
	return gather(func(c int) bool { return lo <= c && c <= hi }), api.OK
}

// Has: is c a byte, and in b?
func Has(b api.Bytes, c int) bool {
	// A number that is no byte would read past the words, or shift by less
	// than nothing.
	if c < 0 || c > lastByte {
		return false
	}
	return b[c/wordBits]>>(c%wordBits)&1 == 1
}

// Or is what is in a, in b, or in both.
func Or(a api.Bytes, b api.Bytes) api.Bytes {
	return join(a, b, func(x, y uint64) uint64 { return x | y })
}

// And is what is in both a and b.
func And(a api.Bytes, b api.Bytes) api.Bytes {
	return join(a, b, func(x, y uint64) uint64 { return x & y })
}

// Minus is what is in a and not in b.
func Minus(a api.Bytes, b api.Bytes) api.Bytes {
	return join(a, b, func(x, y uint64) uint64 { return x &^ y })
}

// Count is how many bytes are in b.
func Count(b api.Bytes) int {
	n := 0
	for _, word := range b {
		for ; word != 0; word >>= 1 {
			n += int(word & 1)
		}
	}
	return n
}

// Ranges is the first and the last byte of each run of b, rising; no run
// touches the next one.
func Ranges(b api.Bytes) [][2]int {
	var runs [][2]int
	eachRun(b, func(lo, hi int) { runs = append(runs, [2]int{lo, hi}) })
	return runs
}

// gather is the set of the bytes that belong.
func gather(belongs func(c int) bool) api.Bytes {
	var b api.Bytes
	for c := range lastByte + 1 {
		if belongs(c) {
			b[c/wordBits] |= 1 << (c % wordBits)
		}
	}
	return b
}

// join is the set whose words are made of those of a and b, one by one.
func join(a api.Bytes, b api.Bytes, of func(x, y uint64) uint64) api.Bytes {
	var out api.Bytes
	for i := range out {
		out[i] = of(a[i], b[i])
	}
	return out
}

// eachRun tells the ends of each run of b, from the lowest on.
func eachRun(b api.Bytes, tell func(lo, hi int)) {
	lo := 0
	for c := range lastByte + 1 {
		if !Has(b, c) {
			continue
		}
		if !Has(b, c-1) {
			lo = c
		}
		// Has answers false behind the last byte, so that a run which reaches
		// it ends there too.
		if !Has(b, c+1) {
			tell(lo, c)
		}
	}
}
