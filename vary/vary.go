// Package vary: numbers whose bytes stand in their order: see doc/01-vary.md.
package vary

import (
	"math/bits"

	"hypostyle/api"
)

// longest: a first byte of ones alone, and all eight bytes of a number.
const longest = 9

// size: how many bytes the shortest form of a number has.
func size(n uint64) int {
	for k := range longest - 1 {
		if n>>(7*(k+1)) == 0 {
			return k + 1
		}
	}
	return longest
}

// lead: the ones with which a form of k bytes begins. More of them is a greater
// first byte, so a longer form stands behind each shorter one.
func lead(k int) byte { return ^byte(0) << (longest - k) }

// spell: a number's bytes, and how many of the array they are.
func spell(n uint64) ([longest]byte, int) {
	var b [longest]byte
	k := size(n)
	for i := range k {
		b[k-1-i] = byte(n >> (8 * i))
	}
	b[0] |= lead(k)
	return b, k
}

// Write: the bytes of a number (A1).
func Write(n uint64) string {
	b, k := spell(n)
	return string(b[:k])
}

// Read: the number with which a text begins, and how many bytes it has (A1).
func Read(s string) (uint64, int, api.Errno) {
	if s == "" {
		return 0, 0, api.ErrNone
	}
	k := bits.LeadingZeros8(^s[0]) + 1
	if len(s) < k {
		return 0, 0, api.ErrNone
	}
	n := uint64(s[0] &^ lead(k))
	for i := range k - 1 {
		n = n<<8 | uint64(s[i+1])
	}
	if size(n) < k {
		return 0, 0, api.ErrForm
	}
	return n, k, api.OK
}

// All: numbers one behind the other (A2).
func All(l []uint64) string {
	out := make([]byte, 0, len(l))
	for _, n := range l {
		b, k := spell(n)
		out = append(out, b[:k]...)
	}
	return string(out)
}

// each hands on the numbers that a text is, up to the first one that is wrong.
func each(s string, hand func(n uint64)) api.Errno {
	for s != "" {
		n, k, e := Read(s)
		if e != api.OK {
			return e
		}
		hand(n)
		s = s[k:]
	}
	return api.OK
}

// ReadAll: the numbers that a text is, all of it (A2).
func ReadAll(s string) ([]uint64, api.Errno) {
	var l []uint64
	if e := each(s, func(n uint64) { l = append(l, n) }); e != api.OK {
		return nil, e
	}
	return l, api.OK
}
