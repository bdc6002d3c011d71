// Package bits: numbers side by side: see doc/02-bits.md.
package bits

import (
	"math/bits"

	"hypostyle/api"
)

// size: how many bytes so many bits fill, the last one perhaps in part.
func size(many int) int { return (many + 7) / 8 }

// put adds a number's bits to bytes that are still 0 there.
func put(out []byte, from, wide int, n uint64) {
	for i := range wide {
		b := from + i
		out[b/8] |= byte(n>>i&1) << (b % 8)
	}
}

// take: the number of so many bits from a bit on.
func take(s string, from, wide int) uint64 {
	var n uint64
	for i := range wide {
		b := from + i
		n |= uint64(s[b/8]>>(b%8)&1) << i
	}
	return n
}

// Width: the least number of bits that each number of a list fits into (B1).
func Width(l []uint64) int {
	var all uint64
	for _, n := range l {
		all |= n
	}
	return bits.Len64(all)
}

// Pack: numbers of so many bits each, one behind the other (B1).
func Pack(l []uint64, wide int) (string, api.Errno) {
	switch {
	case wide < 0 || wide > api.MaxWide:
		return "", api.ErrRange
	case len(l) > api.MaxList:
		return "", api.ErrMany
	case Width(l) > wide:
		return "", api.ErrOver
	}
	out := make([]byte, size(len(l)*wide))
	for i, n := range l {
		put(out, i*wide, wide, n)
	}
	return string(out), api.OK
}

// check: may a text be so many numbers of so many bits? The limits come ahead of
// any reckoning, so that no product of them runs over.
func check(s string, many, wide int) api.Errno {
	if wide < 0 || wide > api.MaxWide || many < 0 {
		return api.ErrRange
	}
	if many > api.MaxList {
		return api.ErrMany
	}
	end := many * wide
	if len(s) != size(end) || take(s, end, 8*len(s)-end) != 0 {
		return api.ErrForm
	}
	return api.OK
}

// each hands on the numbers of a text that was checked.
func each(s string, many, wide int, hand func(n uint64)) {
	for i := range many {
		hand(take(s, i*wide, wide))
	}
}

// Unpack: so many numbers of so many bits (B2).
func Unpack(s string, many, wide int) ([]uint64, api.Errno) {
	if e := check(s, many, wide); e != api.OK {
		return nil, e
	}
	l := make([]uint64, 0, many)
	each(s, many, wide, func(n uint64) { l = append(l, n) })
	return l, api.OK
}

// Get: the one at a place; no other one is read for it (B2).
func Get(s string, many, wide, at int) (uint64, api.Errno) {
	if e := check(s, many, wide); e != api.OK {
		return 0, e
	}
	if at < 0 || at >= many {
		return 0, api.ErrRange
	}
	return take(s, at*wide, wide), api.OK
}
