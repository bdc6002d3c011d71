package column_test

import (
	"strings"
	"testing"

	"hypostyle/api"
	"hypostyle/column"
)

// of: a list of cells.
func of(l ...api.Cell) []api.Cell { return l }

func in(n uint64) api.Cell { return api.Cell{Kind: api.Number, N: n} }
func tx(s string) api.Cell { return api.Cell{Kind: api.Text, S: s} }

func wantCheck(t *testing.T, kind int, l []api.Cell, e api.Errno) {
	t.Helper()
	if g := column.Check(kind, l); g != e {
		t.Errorf("Check(%d, %v) = %d, must be %d", kind, l, g, e)
	}
}

func TestS1Check(t *testing.T) {
	for _, kind := range []int{api.Number, api.Text} {
		for _, many := range []int{0, 1, 64, 65, 128} {
			wantCheck(t, kind, make([]api.Cell, many), api.OK)
		}
	}
	wantCheck(t, api.Number, of(in(0), api.Cell{}, in(1<<63)), api.OK)
	wantCheck(t, api.Text, of(tx(""), api.Cell{}, tx(strings.Repeat("w", 16))), api.OK)
}

func TestS1CheckErrors(t *testing.T) {
	long := make([]api.Cell, 129)
	long[0] = tx("x")
	late := make([]api.Cell, 128)
	late[127] = tx("x")
	for _, kind := range []int{-1, 0, 3, 257} {
		wantCheck(t, kind, nil, api.ErrKind)
		wantCheck(t, kind, long, api.ErrKind)
	}
	wantCheck(t, api.Number, long, api.ErrMany)
	wantCheck(t, api.Number, late, api.ErrKind)
	wantCheck(t, api.Text, late, api.OK)
	wantCheck(t, api.Text, of(api.Cell{N: 1}, in(1)), api.ErrForm)
	wantCheck(t, api.Text, of(in(1), api.Cell{N: 1}), api.ErrKind)
	wantCheck(t, api.Text, of(tx(strings.Repeat("w", 17)), in(1)), api.ErrMany)
	wantCheck(t, api.Number, make([]api.Cell, 1<<22), api.ErrMany)
}
