// Package column: all cells of a column, which may be more than a list of chapter 10
// has.
package column

import (
	"hypostyle/api"
	"hypostyle/nulls"
)

// Check: are these all cells of a column of a kind? Check of chapter 10 knows no lists
// that are as long, so each cell comes to it alone.
func Check(kind int, l []api.Cell) api.Errno {
	if e := nulls.Check(kind, nil); e != api.OK {
		return e
	}
	if len(l) > api.MaxRows {
		return api.ErrMany
	}
	for i := range l {
		if e := nulls.Check(kind, l[i:i+1]); e != api.OK {
			return e
		}
	}
	return api.OK
}
