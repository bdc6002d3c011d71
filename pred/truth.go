package pred

import (
	"hypostyle/api"
	"hypostyle/bloom"
	"hypostyle/nulls"
)

// truth: what a condition is.
type truth int

// Truth values, from the least one on.
const (
	no truth = iota
	unknown
	yes
)

// whether: the truth value of what is so, or is not.
func whether(so bool) truth {
	if so {
		return yes
	}
	return no
}

// told: what a leaf is of a cell of its column (O2).
func told(c api.Cond, cell api.Cell) truth {
	null := cell.Kind == api.Null
	if c.Op == api.Gone {
		return whether(null)
	}
	if null {
		return unknown
	}
	switch c.Op {
	case api.Less:
		return whether(nulls.Less(cell, c.C))
	case api.More:
		return whether(nulls.Less(c.C, cell))
	}
	return whether(cell == c.C)
}

// joined: what And, Or or Not is of what those are that it is of (O2).
func joined(op int, a, b truth) truth {
	switch op {
	case api.And:
		return min(a, b)
	case api.Or:
		return max(a, b)
	}
	return yes - a
}

// set of truth values, of each one a bit.
type set int

// only: the set of one truth value.
func only(t truth) set { return 1 << t }

// mayBe: what a leaf may be of a cell of a column of which this is known (O3).
func mayBe(c api.Cond, s api.Stats, filter [4]uint64) set {
	var may set
	if s.Nulls > 0 {
		may |= only(told(c, api.Cell{}))
	}
	if s.Nulls < s.Rows {
		may |= mayBeThere(c, s, filter)
	}
	return may
}

// mayBeThere: what a leaf may be of a cell that is there. But for Is it is of all that
// lie between two cells what it is of these, if it is the same of both.
func mayBeThere(c api.Cond, s api.Stats, filter [4]uint64) set {
	if c.Op != api.Is {
		return only(told(c, s.Least)) | only(told(c, s.Most))
	}
	switch {
	case nulls.Less(c.C, s.Least), nulls.Less(s.Most, c.C), !bloom.May(filter, c.C):
		return only(no)
	case s.Least == s.Most:
		return only(yes)
	}
	return only(no) | only(yes)
}

// mayBeJoined: what may come of what may be of each (O3).
func mayBeJoined(op int, a, b set) set {
	var may set
	for x := no; x <= yes; x++ {
		for y := no; y <= yes; y++ {
			if a&only(x) != 0 && b&only(y) != 0 {
				may |= only(joined(op, x, y))
			}
		}
	}
	return may
}
