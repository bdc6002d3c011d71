package stats_test

import (
	"math"
	"slices"
	"strings"
	"sync"
	"testing"

	"hypostyle/api"
	"hypostyle/nulls"
	"hypostyle/stats"
)

// of: a list of cells.
func of(l ...api.Cell) []api.Cell { return l }

func in(n uint64) api.Cell { return api.Cell{Kind: api.Number, N: n} }
func tx(s string) api.Cell { return api.Cell{Kind: api.Text, S: s} }

// gone: a Null.
var gone api.Cell

// wide: a text of the most bytes.
var wide = strings.Repeat("w", api.MaxText)

// nothing: what is known where there is an error.
var nothing api.Stats

// known: so many cells, so many of them Nulls, all others between two.
func known(rows, nulls int, least, most api.Cell) api.Stats {
	return api.Stats{Rows: rows, Nulls: nulls, Least: least, Most: most}
}

// missing: so many cells, all of them Nulls.
func missing(rows int) api.Stats { return known(rows, rows, gone, gone) }

// sample: so many cells of a kind, some of them Nulls, others alike.
func sample(kind, many int) []api.Cell {
	l := make([]api.Cell, many)
	for i := range l {
		mixed := uint64(i*i+many*7+3) * 0x9e3779b97f4a7c15
		switch {
		case mixed>>60 < 5:
		case kind == api.Number:
			l[i] = in(mixed >> (mixed >> 58))
		default:
			l[i] = tx((string([]byte{byte(mixed >> 40), byte(mixed >> 20)}) + wide)[:mixed>>50%17])
		}
	}
	return l
}

// lists of a kind: of every length, some of them without a Null, or with Nulls alone.
func lists(kind int) [][]api.Cell {
	var out [][]api.Cell
	for many := range api.MaxList + 1 {
		l := sample(kind, many)
		out = append(out, l, make([]api.Cell, many), slices.DeleteFunc(slices.Clone(l), func(c api.Cell) bool { return c == gone }))
	}
	return out
}

// counted: what is known of cells of a kind, as the document tells it.
func counted(l []api.Cell) api.Stats {
	s := api.Stats{Rows: len(l)}
	for _, c := range l {
		switch {
		case c.Kind == api.Null:
			s.Nulls++
		case s.Least.Kind == api.Null:
			s.Least, s.Most = c, c
		case c.N < s.Least.N || c.S < s.Least.S:
			s.Least = c
		case c.N > s.Most.N || c.S > s.Most.S:
			s.Most = c
		}
	}
	return s
}

func wantOf(t *testing.T, kind int, l []api.Cell, s api.Stats, e api.Errno) {
	t.Helper()
	if gs, ge := stats.Of(kind, l); gs != s || ge != e {
		t.Errorf("Of(%d, %v) = %v %d, must be %v %d", kind, l, gs, ge, s, e)
	}
}

func wantCheck(t *testing.T, kind int, s api.Stats, e api.Errno) {
	t.Helper()
	if ge := stats.Check(kind, s); ge != e {
		t.Errorf("Check(%d, %v) = %d, must be %d", kind, s, ge, e)
	}
}

func wantMerge(t *testing.T, kind int, a, b, s api.Stats, e api.Errno) {
	t.Helper()
	if gs, ge := stats.Merge(kind, a, b); gs != s || ge != e {
		t.Errorf("Merge(%d, %v, %v) = %v %d, must be %v %d", kind, a, b, gs, ge, s, e)
	}
}

func TestL1Of(t *testing.T) {
	for _, c := range []struct {
		kind int
		l    []api.Cell
		s    api.Stats
	}{
		{api.Number, nil, missing(0)},
		{api.Text, of(), missing(0)},
		{api.Number, of(gone), missing(1)},
		{api.Text, make([]api.Cell, 64), missing(64)},
		{api.Number, of(in(0)), known(1, 0, in(0), in(0))},
		{api.Text, of(tx("")), known(1, 0, tx(""), tx(""))},
		{api.Number, of(in(5), gone, in(3), in(9)), known(4, 1, in(3), in(9))},
		{api.Number, of(in(9), in(3), in(5)), known(3, 0, in(3), in(9))},
		{api.Number, of(in(3), in(3), gone), known(3, 1, in(3), in(3))},
		{api.Number, of(gone, gone, in(0), in(math.MaxUint64), gone), known(5, 3, in(0), in(math.MaxUint64))},
		{api.Number, of(in(1<<63), in(1<<63-1)), known(2, 0, in(1<<63-1), in(1<<63))},
		{api.Text, of(tx("wren"), gone, tx("rook"), tx("rooks")), known(4, 1, tx("rook"), tx("wren"))},
		{api.Text, of(tx("a"), tx("")), known(2, 0, tx(""), tx("a"))},
		{api.Text, of(gone, tx("\xff"), tx("\x7f\xff"), tx(wide)), known(4, 1, tx(wide), tx("\xff"))},
		{api.Text, of(tx("ab"), tx("a"), tx("a\x00")), known(3, 0, tx("a"), tx("ab"))},
	} {
		wantOf(t, c.kind, c.l, c.s, api.OK)
		wantCheck(t, c.kind, c.s, api.OK)
	}
}

func TestL1OfEach(t *testing.T) {
	for _, kind := range []int{api.Number, api.Text} {
		for _, l := range lists(kind) {
			wantOf(t, kind, l, counted(l), api.OK)
			wantCheck(t, kind, counted(l), api.OK)
		}
	}
}

func TestL1OfErrors(t *testing.T) {
	for _, c := range []struct {
		kind int
		l    []api.Cell
		e    api.Errno
	}{
		{api.Null, nil, api.ErrKind},
		{3, nil, api.ErrKind},
		{-1, of(in(1)), api.ErrKind},
		{math.MinInt, make([]api.Cell, 65), api.ErrKind},
		{1<<32 + 1, of(in(1)), api.ErrKind},
		{api.Number, make([]api.Cell, 65), api.ErrMany},
		{api.Text, make([]api.Cell, 5000), api.ErrMany},
		{api.Number, of(tx("a")), api.ErrKind},
		{api.Text, of(tx("a"), gone, in(1)), api.ErrKind},
		{api.Number, of(in(1), api.Cell{Kind: 9}), api.ErrKind},
		{api.Number, of(api.Cell{N: 1}), api.ErrForm},
		{api.Number, of(in(1), api.Cell{Kind: api.Number, S: "a"}), api.ErrForm},
		{api.Text, of(api.Cell{Kind: api.Text, N: 1}), api.ErrForm},
		{api.Text, of(tx(wide + "w")), api.ErrMany},
		{api.Text, of(tx(wide+"w"), in(1)), api.ErrMany},
		{api.Text, of(in(1), tx(wide+"w")), api.ErrKind},
	} {
		wantOf(t, c.kind, c.l, nothing, c.e)
	}
}

func TestL1Check(t *testing.T) {
	for _, kind := range []int{api.Number, api.Text} {
		for rows := range api.MaxRows + 1 {
			wantCheck(t, kind, missing(rows), api.OK)
		}
	}
	for rows := 1; rows <= api.MaxRows; rows++ {
		for nulls := range rows {
			wantCheck(t, api.Number, known(rows, nulls, in(3), in(3)), api.OK)
			wantCheck(t, api.Text, known(rows, nulls, tx(""), tx(wide)), api.OK)
		}
	}
	wantCheck(t, api.Number, known(2, 0, in(0), in(math.MaxUint64)), api.OK)
	wantCheck(t, api.Text, known(2, 0, tx("rook"), tx("rooks")), api.OK)
	// Of one cell both ends may be told apart.
	wantCheck(t, api.Number, known(1, 0, in(1), in(2)), api.OK)
}

func TestL1CheckErrors(t *testing.T) {
	long := tx(wide + "w")
	for _, c := range []struct {
		kind int
		s    api.Stats
		e    api.Errno
	}{
		// No such kind, whatever else is wrong.
		{api.Null, nothing, api.ErrKind},
		{3, nothing, api.ErrKind},
		{-1, missing(-1), api.ErrKind},
		{math.MinInt, missing(129), api.ErrKind},
		{math.MaxInt, known(1, 0, in(2), in(1)), api.ErrKind},
		{1<<32 + 2, missing(1), api.ErrKind},
		// Rows, then Nulls, ahead of both cells.
		{api.Number, missing(-1), api.ErrRange},
		{api.Number, missing(math.MinInt), api.ErrRange},
		{api.Text, missing(129), api.ErrRange},
		{api.Text, missing(math.MaxInt), api.ErrRange},
		{api.Number, known(129, 0, in(1), in(2)), api.ErrRange},
		{api.Number, known(-1, 0, gone, gone), api.ErrRange},
		{api.Number, known(0, 1, gone, gone), api.ErrRange},
		{api.Number, known(1, 2, gone, gone), api.ErrRange},
		{api.Number, known(1, -1, in(1), in(1)), api.ErrRange},
		{api.Number, known(128, 129, gone, gone), api.ErrRange},
		{api.Number, known(128, math.MinInt, in(1), in(1)), api.ErrRange},
		{api.Number, known(-1, -1, api.Cell{Kind: 9}, gone), api.ErrRange},
		{api.Text, known(1, 2, long, in(1)), api.ErrRange},
		// Check of Least, then of Most.
		{api.Number, known(1, 0, tx("a"), in(1)), api.ErrKind},
		{api.Number, known(1, 0, in(1), tx("a")), api.ErrKind},
		{api.Text, known(1, 1, gone, in(1)), api.ErrKind},
		{api.Number, known(0, 0, api.Cell{Kind: 9}, gone), api.ErrKind},
		{api.Number, known(1, 1, api.Cell{N: 1}, gone), api.ErrForm},
		{api.Number, known(1, 1, gone, api.Cell{S: "a"}), api.ErrForm},
		{api.Number, known(1, 0, in(1), api.Cell{Kind: api.Number, N: 2, S: "a"}), api.ErrForm},
		{api.Text, known(1, 0, api.Cell{Kind: api.Text, N: 1}, tx("a")), api.ErrForm},
		{api.Text, known(1, 0, tx("a"), long), api.ErrMany},
		{api.Text, known(1, 0, long, long), api.ErrMany},
		{api.Text, known(1, 0, long, in(1)), api.ErrMany},
		{api.Text, known(1, 0, in(1), long), api.ErrKind},
		{api.Text, known(1, 0, api.Cell{N: 1}, long), api.ErrForm},
		{api.Text, known(1, 1, tx("b"), long), api.ErrMany},
		// A Null is Least or Most, but not all are Nulls.
		{api.Number, known(1, 0, gone, gone), api.ErrState},
		{api.Number, known(2, 1, gone, in(1)), api.ErrState},
		{api.Number, known(2, 1, in(1), gone), api.ErrState},
		{api.Text, known(128, 127, gone, gone), api.ErrState},
		// None is, but all are.
		{api.Number, known(0, 0, in(1), in(1)), api.ErrState},
		{api.Number, known(1, 1, in(1), in(1)), api.ErrState},
		{api.Number, known(1, 1, gone, in(1)), api.ErrState},
		{api.Text, known(128, 128, tx(""), gone), api.ErrState},
		// Most is less than Least.
		{api.Number, known(1, 0, in(2), in(1)), api.ErrState},
		{api.Number, known(128, 127, in(math.MaxUint64), in(0)), api.ErrState},
		{api.Text, known(2, 0, tx("a"), tx("")), api.ErrState},
		{api.Text, known(2, 0, tx("rooks"), tx("rook")), api.ErrState},
		{api.Text, known(2, 0, tx("\xff"), tx("a")), api.ErrState},
	} {
		wantCheck(t, c.kind, c.s, c.e)
		wantMerge(t, c.kind, c.s, c.s, nothing, c.e)
		if c.kind == api.Number || c.kind == api.Text {
			wantMerge(t, c.kind, missing(1), c.s, nothing, c.e)
			wantMerge(t, c.kind, c.s, missing(1), nothing, c.e)
			wantMerge(t, c.kind, missing(128), c.s, nothing, c.e)
		}
	}
}

func TestL2Merge(t *testing.T) {
	for _, c := range []struct {
		kind    int
		a, b, s api.Stats
	}{
		{api.Number, missing(0), missing(0), missing(0)},
		{api.Text, missing(3), missing(4), missing(7)},
		{api.Text, missing(64), missing(64), missing(128)},
		{api.Number, missing(2), known(3, 1, in(4), in(6)), known(5, 3, in(4), in(6))},
		{api.Number, known(3, 1, in(4), in(6)), missing(2), known(5, 3, in(4), in(6))},
		{api.Number, known(3, 1, in(4), in(6)), missing(0), known(3, 1, in(4), in(6))},
		{api.Number, known(1, 0, in(0), in(0)), missing(1), known(2, 1, in(0), in(0))},
		{api.Number, known(2, 0, in(1), in(2)), known(2, 0, in(3), in(4)), known(4, 0, in(1), in(4))},
		{api.Number, known(2, 0, in(3), in(4)), known(2, 0, in(1), in(2)), known(4, 0, in(1), in(4))},
		{api.Number, known(2, 0, in(1), in(9)), known(2, 0, in(3), in(4)), known(4, 0, in(1), in(9))},
		{api.Number, known(2, 0, in(3), in(4)), known(2, 0, in(1), in(9)), known(4, 0, in(1), in(9))},
		{api.Number, known(2, 1, in(3), in(3)), known(126, 100, in(3), in(3)), known(128, 101, in(3), in(3))},
		{api.Text, known(2, 0, tx("a"), tx("c")), known(9, 8, tx("b"), tx("d")), known(11, 8, tx("a"), tx("d"))},
		{api.Text, known(1, 0, tx(""), tx("")), known(1, 0, tx(wide), tx(wide)), known(2, 0, tx(""), tx(wide))},
		{api.Text, known(1, 0, tx("\xff"), tx("\xff")), known(1, 0, tx("z"), tx("z")), known(2, 0, tx("z"), tx("\xff"))},
	} {
		wantMerge(t, c.kind, c.a, c.b, c.s, api.OK)
	}
}

// Check of a comes first, then of b, then how many there would be.
func TestL2Errors(t *testing.T) {
	broken := []struct {
		s api.Stats
		e api.Errno
	}{
		{missing(-1), api.ErrRange},
		{known(1, 0, tx("a"), in(1)), api.ErrKind},
		{known(1, 0, in(2), in(1)), api.ErrState},
		{known(1, 1, api.Cell{N: 1}, gone), api.ErrForm},
	}
	for _, a := range broken {
		for _, b := range broken {
			wantMerge(t, api.Number, a.s, b.s, nothing, a.e)
			wantMerge(t, api.Null, a.s, b.s, nothing, api.ErrKind)
			wantMerge(t, 3, a.s, b.s, nothing, api.ErrKind)
		}
		for _, rows := range []int{0, 1, 128} {
			wantMerge(t, api.Number, a.s, missing(rows), nothing, a.e)
			wantMerge(t, api.Number, missing(rows), a.s, nothing, a.e)
		}
	}
	wantMerge(t, api.Number, known(1, 0, in(1), in(1)), known(1, 0, tx("a"), tx("a")), nothing, api.ErrKind)
	wantMerge(t, api.Text, known(1, 0, in(1), in(1)), known(1, 0, tx("a"), tx("a")), nothing, api.ErrKind)
}

func TestL2Many(t *testing.T) {
	for rows := range api.MaxRows + 1 {
		left := api.MaxRows - rows
		wantMerge(t, api.Number, missing(rows), missing(left), missing(api.MaxRows), api.OK)
		if rows > 0 {
			wantMerge(t, api.Text, missing(rows), missing(left+1), nothing, api.ErrMany)
		}
	}
	wantMerge(t, api.Number, missing(128), known(1, 0, in(1), in(1)), nothing, api.ErrMany)
	wantMerge(t, api.Number, known(1, 0, in(1), in(1)), missing(128), nothing, api.ErrMany)
	wantMerge(t, api.Text, known(128, 9, tx(""), tx("a")), known(128, 9, tx(""), tx("a")), nothing, api.ErrMany)
}

// parts of cells of a kind, each one known by itself.
func parts(t *testing.T, kind int, l []api.Cell, size int) []api.Stats {
	t.Helper()
	var out []api.Stats
	for part := range slices.Chunk(l, size) {
		s, e := stats.Of(kind, part)
		if e != api.OK {
			t.Fatalf("Of(%d, %v) has error %d", kind, part, e)
		}
		out = append(out, s)
	}
	return out
}

// merged: all of them, in an order that is told by a number.
func merged(t *testing.T, kind int, l []api.Stats, order int) api.Stats {
	t.Helper()
	l = slices.Clone(l)
	for len(l) > 1 {
		i := order % len(l)
		a := l[i]
		l = slices.Delete(l, i, i+1)
		k := order / 3 % len(l)
		s, e := stats.Merge(kind, a, l[k])
		if e != api.OK {
			t.Fatalf("Merge(%d, %v, %v) has error %d", kind, a, l[k], e)
		}
		l[k] = s
		order = (order*5 + 1) % 9973
	}
	return l[0]
}

// However cells are parted, and in whatever order their parts are merged, it is
// known of them what is known of all.
func TestL3Parts(t *testing.T) {
	for _, kind := range []int{api.Number, api.Text} {
		for many := 1; many <= api.MaxRows; many++ {
			l := sample(kind, many)
			for _, size := range []int{1, 2, 7, 16, 63, 64} {
				p := parts(t, kind, l, size)
				for order := range 4 {
					if s := merged(t, kind, p, order*97); s != counted(l) {
						t.Errorf("of %v it is known %v, must be %v", l, s, counted(l))
					}
				}
			}
		}
	}
}

func TestL3Both(t *testing.T) {
	for _, kind := range []int{api.Number, api.Text} {
		for _, l := range lists(kind) {
			for at := range len(l) + 1 {
				a, _ := stats.Of(kind, l[:at])
				b, _ := stats.Of(kind, l[at:])
				wantMerge(t, kind, a, b, counted(l), api.OK)
				wantMerge(t, kind, b, a, counted(l), api.OK)
			}
		}
	}
}

// some of what may be known of a column, or may not.
func some() []api.Stats {
	var out []api.Stats
	ends := of(gone, in(0), in(7), in(math.MaxUint64), tx(""), tx("rook"), tx(wide), tx(wide+"w"), api.Cell{N: 1}, api.Cell{Kind: -1}, api.Cell{Kind: api.Text, N: 1, S: "a"})
	for _, rows := range []int{math.MinInt, -1, 0, 1, 2, 64, 128, 129, math.MaxInt} {
		for _, nulls := range []int{math.MinInt, -1, 0, 1, 64, 128, 129, math.MaxInt} {
			for _, least := range ends {
				for _, most := range ends {
					out = append(out, known(rows, nulls, least, most))
				}
			}
		}
	}
	return out
}

// may: may this be known of a column of a kind, as the document says it?
func may(kind int, s api.Stats) bool {
	if kind != 1 && kind != 2 || s.Rows < 0 || s.Rows > 128 || s.Nulls < 0 || s.Nulls > s.Rows {
		return false
	}
	if s.Nulls == s.Rows {
		return s.Least == gone && s.Most == gone
	}
	for _, c := range of(s.Least, s.Most) {
		if c.Kind != kind || nulls.Check(kind, of(c)) != api.OK {
			return false
		}
	}
	return s.Least == s.Most || nulls.Less(s.Least, s.Most)
}

// What is merged of what may be known may be known too, whichever one comes first;
// all else is nothing but an error.
func TestP1Strange(t *testing.T) {
	all := some()
	for _, kind := range []int{math.MinInt, -1, 0, 1, 2, 3, math.MaxInt} {
		for i, a := range all {
			e := stats.Check(kind, a)
			if (e == api.OK) != may(kind, a) {
				t.Errorf("Check(%d, %v) = %d", kind, a, e)
			}
			for k := i % 89; k < len(all); k += 89 {
				s, f := stats.Merge(kind, a, all[k])
				if f != api.OK {
					if s != nothing || e != api.OK && f != e {
						t.Errorf("Merge(%d, %v, %v) = %v %d", kind, a, all[k], s, f)
					}
					continue
				}
				if !may(kind, a) || !may(kind, all[k]) || !may(kind, s) {
					t.Errorf("Merge(%d, %v, %v) = %v", kind, a, all[k], s)
				}
				wantMerge(t, kind, all[k], a, s, api.OK)
			}
		}
	}
}

func TestP2OnlyRead(t *testing.T) {
	for _, kind := range []int{api.Number, api.Text} {
		l := sample(kind, 40)
		was := slices.Clone(l)
		s, _ := stats.Of(kind, l[:20])
		if !slices.Equal(l, was) {
			t.Error("a list, or the room behind it, was changed")
		}
		clear(l)
		if s != counted(was[:20]) {
			t.Error("what is known changed with the list")
		}
	}
}

func TestP3SameAgain(t *testing.T) {
	l := sample(api.Text, 60)
	both := counted(append(slices.Clone(l), l...))
	var all sync.WaitGroup
	for range 8 {
		all.Go(func() {
			for range 100 {
				stats.Of(api.Number, sample(api.Number, 61))
				stats.Of(api.Number, l)
				stats.Merge(api.Text, missing(129), both)
				wantOf(t, api.Text, l, counted(l), api.OK)
				wantCheck(t, api.Text, both, api.OK)
				wantMerge(t, api.Text, counted(l), counted(l), both, api.OK)
			}
		})
	}
	all.Wait()
}

func TestP4LongOnes(t *testing.T) {
	if s, e := stats.Of(api.Text, make([]api.Cell, 1<<22)); s != nothing || e != api.ErrMany {
		t.Errorf("Of a long list has error %d", e)
	}
	long := tx(strings.Repeat("x", 1<<24))
	if s, e := stats.Of(api.Text, of(long)); s != nothing || e != api.ErrMany {
		t.Errorf("Of a long text has error %d", e)
	}
	for _, s := range []api.Stats{known(1, 0, long, long), known(1, 0, tx("a"), long)} {
		if e := stats.Check(api.Text, s); e != api.ErrMany {
			t.Errorf("Check of a long text has error %d", e)
		}
		if m, e := stats.Merge(api.Text, missing(1), s); m != nothing || e != api.ErrMany {
			t.Errorf("Merge of a long text has error %d", e)
		}
	}
}
