package laid_test

import (
	"math"
	"strings"
	"testing"

	"hypostyle/api"
	"hypostyle/chunk"
	"hypostyle/laid"
)

func in(n uint64) api.Cell { return api.Cell{Kind: api.Number, N: n} }
func tx(s string) api.Cell { return api.Cell{Kind: api.Text, S: s} }

// table of so many rows.
func table(rows int) api.Table {
	t := api.Table{Cols: []api.Column{{Name: "n", Kind: api.Number}, {Name: "t", Kind: api.Text}}, Data: make([][]api.Cell, 2)}
	for r := range rows {
		t.Data[0] = append(t.Data[0], in(uint64(r)))
		t.Data[1] = append(t.Data[1], tx(strings.Repeat("t", r%5)))
	}
	return t
}

func TestT1Chunks(t *testing.T) {
	for rows := range api.MaxRows + 1 {
		is := table(rows)
		for _, group := range []int{16, 17, 127, 128} {
			f, e := laid.Of(is, 8, group)
			if many := 2 * ((rows + group - 1) / group); e != api.OK || f.Many() != many {
				t.Fatalf("of %d rows in groups of %d there are %d chunks and %d, must be %d", rows, group, f.Many(), e, many)
			}
			for at := range f.Many() {
				from := at / 2 * group
				s, _ := chunk.Write(is.Cols[at%2].Kind, is.Data[at%2][from:min(from+group, rows)], 8)
				if g := f.Chunk(at); g != s {
					t.Errorf("of %d rows in groups of %d chunk %d is %q, must be %q", rows, group, at, g, s)
				}
			}
		}
	}
}

func TestT1Text(t *testing.T) {
	f, e := laid.Of(table(3), 64, 2)
	if e != api.OK {
		t.Fatal(e)
	}
	foot := "\x02\x01\x01n\x02\x01t\x02\x02\x01\x02\x01\x03\x00"
	g := f.Text([]string{"a", "bb", "ccc", ""})
	if !strings.HasPrefix(g, "COL1abbccc"+string([]byte{byte(len(foot))})+foot) || !strings.HasSuffix(g, "\x00\x00\x00\x13COL1") {
		t.Errorf("it is %q", g)
	}
	if f, _ := laid.Of(api.Table{}, 1, 1); f.Many() != 0 || f.Text(nil) != "COL1\x02\x00\x00\x00\x02\x00\x01\x00\x00\x00\x07COL1" {
		t.Errorf("of no columns there are %d chunks, and %q", f.Many(), f.Text(nil))
	}
}

func TestT1Errors(t *testing.T) {
	for _, c := range []struct {
		t          api.Table
		per, group int
		e          api.Errno
	}{
		{api.Table{Cols: table(0).Cols}, 0, 0, api.ErrForm},
		{table(129), 0, 0, api.ErrMany},
		{table(1), 0, 1, api.ErrRange},
		{table(1), 65, 1, api.ErrRange},
		{table(1), 1, 0, api.ErrRange},
		{table(1), 1, 129, api.ErrRange},
		{table(128), math.MinInt, math.MaxInt, api.ErrRange},
		{table(9), 1, 1, api.ErrMany},
		{table(128), 64, 15, api.ErrMany},
		{table(17), 1, 17, api.ErrMany},
		{table(8), 1, 1, api.OK},
		{table(128), 1, 16, api.OK},
		{table(16), 1, 128, api.OK},
	} {
		if _, e := laid.Of(c.t, c.per, c.group); e != c.e {
			t.Errorf("Of(%v, %d, %d) is %d, must be %d", c.t, c.per, c.group, e, c.e)
		}
	}
}
