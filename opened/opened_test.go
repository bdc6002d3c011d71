package opened_test

import (
	"math"
	"slices"
	"testing"

	"hypostyle/api"
	"hypostyle/chunk"
	"hypostyle/opened"
)

func in(n uint64) api.Cell { return api.Cell{Kind: api.Number, N: n} }
func tx(s string) api.Cell { return api.Cell{Kind: api.Text, S: s} }

// numbers and texts of a file's two columns.
func numbers() []api.Cell { return []api.Cell{in(1), {}, in(3), in(4), in(5)} }
func texts() []api.Cell   { return []api.Cell{tx("a"), tx("b"), {}, tx(""), tx("e")} }

// sample: a file of groups of two, two and one rows, and where its chunks begin.
func sample() (opened.File, []int) {
	f := opened.File{Text: api.Magic, Cols: []api.Column{{Name: "n", Kind: api.Number}, {Name: "t", Kind: api.Text}}}
	var at []int
	for from := 0; from < 5; from += 2 {
		end := min(from+2, 5)
		g := api.Group{Rows: end - from}
		for i, l := range [][]api.Cell{numbers(), texts()} {
			s, _ := chunk.Write(f.Cols[i].Kind, l[from:end], 1)
			at = append(at, len(f.Text))
			f.Text += s
			g.Sizes = append(g.Sizes, len(s))
		}
		f.Groups = append(f.Groups, g)
	}
	f.Text += "a foot"
	return f, at
}

func wantChunk(t *testing.T, f opened.File, group, column int, l []api.Cell, e api.Errno) {
	t.Helper()
	if g, ge := f.Chunk(group, column); !slices.Equal(g, l) || ge != e {
		t.Errorf("Chunk(%d, %d) = %v %d, must be %v %d", group, column, g, ge, l, e)
	}
}

func wantRows(t *testing.T, f opened.File, column, from, many int, l []api.Cell, e api.Errno) {
	t.Helper()
	if g, ge := f.Rows(column, from, many); !slices.Equal(g, l) || ge != e {
		t.Errorf("Rows(%d, %d, %d) = %v %d, must be %v %d", column, from, many, g, ge, l, e)
	}
}

func TestT1At(t *testing.T) {
	f, at := sample()
	for i, want := range at {
		if g := f.At(i/2, i%2); g != want {
			t.Errorf("At(%d, %d) = %d, must be %d", i/2, i%2, g, want)
		}
	}
}

func TestT3Chunk(t *testing.T) {
	f, at := sample()
	for group := range 3 {
		end := min(2*group+2, 5)
		wantChunk(t, f, group, 0, numbers()[2*group:end], api.OK)
		wantChunk(t, f, group, 1, texts()[2*group:end], api.OK)
	}
	f.Groups[0].Sizes[0]--
	wantChunk(t, f, 0, 0, nil, api.ErrState)
	f, _ = sample()
	f.Groups[0].Sizes[0]++
	wantChunk(t, f, 0, 0, nil, api.ErrState)
	f, _ = sample()
	f.Groups[1].Rows++
	wantChunk(t, f, 1, 1, nil, api.ErrState)
	f, _ = sample()
	f.Cols[1].Kind = api.Number
	wantChunk(t, f, 2, 1, nil, api.ErrState)
	f, _ = sample()
	f.Text = f.Text[:at[5]]
	wantChunk(t, f, 2, 1, nil, api.ErrNone)
}

func TestT3Rows(t *testing.T) {
	f, _ := sample()
	for from := range 7 {
		for _, many := range []int{0, 1, 2, 3, 4, 5, 6, math.MaxInt} {
			first := min(from, 5)
			end := first + min(many, 5-first)
			wantRows(t, f, 0, from, many, numbers()[first:end], api.OK)
			wantRows(t, f, 1, from, many, texts()[first:end], api.OK)
		}
	}
	wantRows(t, f, 1, math.MaxInt, math.MaxInt, nil, api.OK)
	f.Groups[1].Sizes[1]--
	wantRows(t, f, 1, 0, 2, texts()[:2], api.OK)
	wantRows(t, f, 1, 1, 2, nil, api.ErrState)
	wantRows(t, f, 1, 3, 1, nil, api.ErrState)
}
