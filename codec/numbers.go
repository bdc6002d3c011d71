package codec

import (
	"hypostyle/api"
	"hypostyle/bits"
	"hypostyle/delta"
	"hypostyle/hybrid"
	"hypostyle/patch"
)

// The ways of numbers stand side by side.
const (
	firstNumbers = api.Packed
	lastNumbers  = api.Patch
)

// sayNumbers: what a way of numbers says of a list.
func sayNumbers(l []uint64, way int) (string, api.Errno) {
	switch way {
	case api.Packed:
		return sayWide(l, bits.Pack)
	case api.Hybrid:
		return sayWide(l, hybrid.Write)
	case api.Delta:
		return delta.Write(l)
	case api.Patch:
		return patch.Write(l)
	}
	return "", api.ErrKind
}

// toldNumbers: so many numbers of what a way says.
func toldNumbers(s string, many, way int) ([]uint64, api.Errno) {
	switch way {
	case api.Packed:
		return toldWide(s, many, bits.Unpack)
	case api.Hybrid:
		return toldWide(s, many, hybrid.Read)
	case api.Delta:
		return delta.Read(s, many)
	case api.Patch:
		return patch.Read(s, many)
	}
	return nil, api.ErrKind
}

// sayWide: a byte, the width of a list, and its numbers, written by that width.
func sayWide(l []uint64, write func(l []uint64, wide int) (string, api.Errno)) (string, api.Errno) {
	wide := bits.Width(l)
	s, e := write(l, wide)
	return headed(wide, s, e)
}

// toldWide: so many numbers behind their width. No width but the least is let pass.
func toldWide(s string, many int, read func(s string, many, wide int) ([]uint64, api.Errno)) ([]uint64, api.Errno) {
	if s == "" {
		return nil, api.ErrNone
	}
	wide := int(s[0])
	l, e := read(s[1:], many, wide)
	if e != api.OK {
		return nil, e
	}
	if bits.Width(l) != wide {
		return nil, api.ErrForm
	}
	return l, api.OK
}
