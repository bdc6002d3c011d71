package pred_test

import (
	"math"
	"slices"
	"strings"
	"sync"
	"testing"

	"hypostyle/api"
	"hypostyle/bloom"
	"hypostyle/nulls"
	"hypostyle/pred"
	"hypostyle/stats"
)

// of: a list of cells.
func of(l ...api.Cell) []api.Cell { return l }

// all: a condition, node by node.
func all(l ...api.Cond) []api.Cond { return l }

func in(n uint64) api.Cell { return api.Cell{Kind: api.Number, N: n} }
func tx(s string) api.Cell { return api.Cell{Kind: api.Text, S: s} }

// gone: a Null.
var gone api.Cell

// wide: a text of the most bytes.
var wide = strings.Repeat("w", api.MaxText)

// full: a filter of all marks.
var full = [4]uint64{math.MaxUint64, math.MaxUint64, math.MaxUint64, math.MaxUint64}

// both kinds: a column of numbers, and one of texts.
var both = []int{api.Number, api.Text}

// sets of truth values, in short.
const (
	f = api.MayFalse
	u = api.MayUnknown
	t = api.MayTrue
)

func is(c api.Cell, col int) api.Cond   { return api.Cond{Op: api.Is, Col: col, C: c} }
func less(c api.Cell, col int) api.Cond { return api.Cond{Op: api.Less, Col: col, C: c} }
func more(c api.Cell, col int) api.Cond { return api.Cond{Op: api.More, Col: col, C: c} }
func null(col int) api.Cond             { return api.Cond{Op: api.Gone, Col: col} }

var and, or, not = api.Cond{Op: api.And}, api.Cond{Op: api.Or}, api.Cond{Op: api.Not}

// column: what is known of cells of a kind, and which may be there.
func column(kind int, l ...api.Cell) (api.Stats, [4]uint64) {
	s, _ := stats.Of(kind, l)
	return s, bloom.Of(l)
}

// known: so many cells, so many of them Nulls, all others between two.
func known(rows, nulls int, least, most api.Cell) api.Stats {
	return api.Stats{Rows: rows, Nulls: nulls, Least: least, Most: most}
}

// draw: numbers that look as if they were drawn; the same each time.
type draw uint64

func (d *draw) n(n int) int {
	*d = *d*6364136223846793005 + 1442695040888963407
	return int(uint64(*d) >> 33 % uint64(n))
}

func wantCheck(x *testing.T, p []api.Cond, kinds []int, e api.Errno) {
	x.Helper()
	if ge := pred.Check(p, kinds); ge != e {
		x.Errorf("Check(%v, %v) = %d, must be %d", p, kinds, ge, e)
	}
}

func wantAsk(x *testing.T, p []api.Cond, kinds []int, row []api.Cell, truth int, e api.Errno) {
	x.Helper()
	if g, ge := pred.Ask(p, kinds, row); g != truth || ge != e {
		x.Errorf("Ask(%v, %v, %v) = %d %d, must be %d %d", p, kinds, row, g, ge, truth, e)
	}
}

func wantPrune(x *testing.T, p []api.Cond, kinds []int, known []api.Stats, filters [][4]uint64, set int, e api.Errno) {
	x.Helper()
	if g, ge := pred.Prune(p, kinds, known, filters); g != set || ge != e {
		x.Errorf("Prune(%v, %v, %v, %x) = %d %d, must be %d %d", p, kinds, known, filters, g, ge, set, e)
	}
}

// wantEach: an error of a condition, whatever call is told of it, and whatever else is wrong.
func wantEach(x *testing.T, p []api.Cond, kinds []int, e api.Errno) {
	x.Helper()
	wantCheck(x, p, kinds, e)
	for _, row := range [][]api.Cell{nil, of(in(1), tx("a")), of(tx("a"), in(1)), make([]api.Cell, len(kinds))} {
		wantAsk(x, p, kinds, row, 0, e)
	}
	for _, many := range []int{0, 1, len(kinds)} {
		wantPrune(x, p, kinds, make([]api.Stats, many), make([][4]uint64, many), 0, e)
		wantPrune(x, p, kinds, slices.Repeat([]api.Stats{{Rows: -1}}, many), nil, 0, e)
	}
}

func TestO1Good(x *testing.T) {
	for _, p := range [][]api.Cond{
		all(is(in(0), 0)), all(is(in(math.MaxUint64), 0)), all(is(tx(""), 1)), all(is(tx(wide), 1)),
		all(less(in(5), 0)), all(less(tx("a"), 1)), all(more(in(5), 0)), all(more(tx("\xff\x00"), 1)),
		all(null(0)), all(null(1)), all(null(0), not), all(null(0), not, not),
		all(null(0), null(1), and), all(null(0), null(1), or), all(null(0), is(tx("a"), 1), not, and),
		all(null(0), null(0), null(0), null(0), and, or, and), all(null(0), null(0), and, null(0), null(0), or, or, not),
	} {
		wantCheck(x, p, both, api.OK)
	}
}

func TestO1Errors(x *testing.T) {
	for _, c := range []struct {
		p []api.Cond
		e api.Errno
	}{
		{nil, api.ErrForm},
		{all(), api.ErrForm},
		// No such op.
		{all(api.Cond{}), api.ErrKind},
		{all(api.Cond{Op: -1}), api.ErrKind},
		{all(api.Cond{Op: 8}), api.ErrKind},
		{all(api.Cond{Op: math.MaxInt}), api.ErrKind},
		{all(api.Cond{Op: math.MinInt}), api.ErrKind},
		{all(api.Cond{Op: 1 << 32, Col: -1, C: gone}), api.ErrKind},
		// No such column.
		{all(is(in(5), -1)), api.ErrRange},
		{all(less(in(5), 2)), api.ErrRange},
		{all(more(tx("a"), math.MaxInt)), api.ErrRange},
		{all(null(2)), api.ErrRange},
		{all(null(math.MinInt)), api.ErrRange},
		// A cell of another kind, or of none.
		{all(is(tx("a"), 0)), api.ErrKind},
		{all(less(in(5), 1)), api.ErrKind},
		{all(more(api.Cell{Kind: 3}, 1)), api.ErrKind},
		{all(is(gone, 0)), api.ErrKind},
		{all(less(gone, 1)), api.ErrKind},
		{all(more(gone, 0)), api.ErrKind},
		// A cell of no form.
		{all(is(api.Cell{Kind: api.Number, N: 5, S: "a"}, 0)), api.ErrForm},
		{all(less(api.Cell{Kind: api.Text, N: 1}, 1)), api.ErrForm},
		{all(more(api.Cell{N: 1}, 1)), api.ErrForm},
		{all(is(api.Cell{S: "a"}, 0)), api.ErrForm},
		{all(is(tx(wide+"w"), 1)), api.ErrMany},
		{all(less(tx(wide+"w"), 1)), api.ErrMany},
		{all(more(api.Cell{Kind: api.Text, N: 1, S: wide + "w"}, 1)), api.ErrForm},
		{all(is(tx(wide+"w"), 0)), api.ErrKind},
		// A Gone of a cell.
		{all(api.Cond{Op: api.Gone, C: in(0)}), api.ErrForm},
		{all(api.Cond{Op: api.Gone, Col: 1, C: tx("")}), api.ErrForm},
		{all(api.Cond{Op: api.Gone, Col: 1, C: api.Cell{S: "a"}}), api.ErrForm},
		{all(api.Cond{Op: api.Gone, Col: 1, C: api.Cell{N: 1}}), api.ErrForm},
		{all(api.Cond{Op: api.Gone, Col: 2, C: in(0)}), api.ErrRange},
		// What belongs to nobody.
		{all(and), api.ErrForm},
		{all(or), api.ErrForm},
		{all(not), api.ErrForm},
		{all(null(0), and), api.ErrForm},
		{all(null(0), or), api.ErrForm},
		{all(null(0), not, and), api.ErrForm},
		{all(null(0), null(0), and, or), api.ErrForm},
		{all(null(0), null(0)), api.ErrForm},
		{all(null(0), null(0), not), api.ErrForm},
		{all(null(0), null(0), null(0), and), api.ErrForm},
		// The first node of which something is wrong tells, ahead of the whole.
		{all(null(0), null(0), api.Cond{Op: 8}), api.ErrKind},
		{all(null(0), null(0), is(in(5), 2)), api.ErrRange},
		{all(not, api.Cond{Op: 8}), api.ErrForm},
		{all(api.Cond{Op: 8}, not), api.ErrKind},
		{all(is(in(5), 2), is(tx("a"), 0)), api.ErrRange},
		{all(is(tx("a"), 0), is(in(5), 2)), api.ErrKind},
		{all(is(tx(wide+"w"), 1), and), api.ErrMany},
	} {
		wantEach(x, c.p, both, c.e)
	}
}

// And, Or and Not have neither a column nor a cell.
func TestO1Joining(x *testing.T) {
	for _, op := range []int{api.And, api.Or, api.Not} {
		ahead := all(null(0))
		if op != api.Not {
			ahead = all(null(0), null(1))
		}
		wantCheck(x, append(slices.Clone(ahead), api.Cond{Op: op}), both, api.OK)
		for _, c := range []api.Cond{{Col: 1}, {Col: -1}, {Col: 2}, {Col: math.MaxInt}, {C: in(0)}, {C: tx("")}, {C: api.Cell{N: 1}}, {C: api.Cell{S: "a"}}, {C: tx(wide + "w")}, {C: api.Cell{Kind: 9}}} {
			c.Op = op
			wantEach(x, append(slices.Clone(ahead), c), both, api.ErrForm)
		}
	}
}

func TestO1Kinds(x *testing.T) {
	for _, kind := range []int{math.MinInt, -1, 0, 3, 1 << 32, math.MaxInt} {
		for _, c := range []api.Cond{is(in(5), 1), less(tx("a"), 1), more(gone, 1), null(1), is(tx(wide+"w"), 1), {Op: api.Gone, Col: 1, C: in(5)}, is(api.Cell{N: 1}, 1)} {
			wantEach(x, all(c), []int{api.Number, kind}, api.ErrKind)
		}
		// Of a column that nobody asks for its kind says nothing.
		wantCheck(x, all(is(in(5), 0)), []int{api.Number, kind}, api.OK)
		wantCheck(x, all(null(1)), []int{kind, api.Text}, api.OK)
	}
	for _, c := range []api.Cond{is(in(5), 0), less(in(5), 0), more(in(5), 0), null(0)} {
		wantEach(x, all(c), nil, api.ErrRange)
		wantCheck(x, all(c), both[:1], api.OK)
	}
	many := slices.Repeat([]int{api.Text}, 1000)
	wantCheck(x, all(is(tx("a"), 999)), many, api.OK)
	wantCheck(x, all(is(tx("a"), 1000)), many, api.ErrRange)
}

func TestO1Many(x *testing.T) {
	p := all(null(0))
	for len(p) < api.MaxCond {
		wantCheck(x, p, both, api.OK)
		p = append(p, not)
	}
	wantCheck(x, p, both, api.OK)
	wantEach(x, append(p, not), both, api.ErrMany)
	leaves := slices.Repeat(all(null(0)), 8)
	wantCheck(x, append(slices.Clone(leaves), slices.Repeat(all(and), 7)...), both, api.OK)
	wantEach(x, append(slices.Clone(leaves), slices.Repeat(all(and), 8)...), both, api.ErrForm)
	wantEach(x, append(slices.Clone(leaves), slices.Repeat(all(and), 9)...), both, api.ErrMany)
	wantEach(x, make([]api.Cond, api.MaxCond), both, api.ErrKind)
	wantEach(x, make([]api.Cond, api.MaxCond+1), both, api.ErrMany)
	wantEach(x, slices.Repeat(all(null(9)), 1000), both, api.ErrMany)
}

// Leaves, asked of a cell.
func TestO2Leaves(x *testing.T) {
	for _, c := range []struct {
		kind              int
		cell, of          api.Cell
		is, less, more, n int
	}{
		{api.Number, in(5), in(5), 2, 0, 0, 0},
		{api.Number, in(4), in(5), 0, 2, 0, 0},
		{api.Number, in(6), in(5), 0, 0, 2, 0},
		{api.Number, in(0), in(0), 2, 0, 0, 0},
		{api.Number, in(0), in(math.MaxUint64), 0, 2, 0, 0},
		{api.Number, in(1 << 63), in(1<<63 - 1), 0, 0, 2, 0},
		{api.Number, gone, in(0), 1, 1, 1, 2},
		{api.Number, gone, in(5), 1, 1, 1, 2},
		{api.Text, tx("rook"), tx("rook"), 2, 0, 0, 0},
		{api.Text, tx("roo"), tx("rook"), 0, 2, 0, 0},
		{api.Text, tx("rooks"), tx("rook"), 0, 0, 2, 0},
		{api.Text, tx("Rook"), tx("rook"), 0, 2, 0, 0},
		{api.Text, tx("\xff"), tx("rook"), 0, 0, 2, 0},
		{api.Text, tx(""), tx(""), 2, 0, 0, 0},
		{api.Text, tx(""), tx("\x00"), 0, 2, 0, 0},
		{api.Text, tx(wide), tx(wide), 2, 0, 0, 0},
		{api.Text, tx("b"), tx(wide[:2]), 0, 2, 0, 0},
		{api.Text, gone, tx(""), 1, 1, 1, 2},
	} {
		kinds, row := []int{c.kind}, of(c.cell)
		wantAsk(x, all(is(c.of, 0)), kinds, row, c.is, api.OK)
		wantAsk(x, all(less(c.of, 0)), kinds, row, c.less, api.OK)
		wantAsk(x, all(more(c.of, 0)), kinds, row, c.more, api.OK)
		wantAsk(x, all(null(0)), kinds, row, c.n, api.OK)
	}
}

// asked: a cell of which it is False, Unknown or True that it is 5.
func asked(truth int) api.Cell { return of(in(6), gone, in(5))[truth] }

func TestO2Joined(x *testing.T) {
	kinds := []int{api.Number, api.Number}
	a, b := is(in(5), 0), is(in(5), 1)
	lesser := [3][3]int{{0, 0, 0}, {0, 1, 1}, {0, 1, 2}}
	greater := [3][3]int{{0, 1, 2}, {1, 1, 2}, {2, 2, 2}}
	about := [3]int{2, 1, 0}
	for i := range 3 {
		for k := range 3 {
			row := of(asked(i), asked(k))
			wantAsk(x, all(a, b, and), kinds, row, lesser[i][k], api.OK)
			wantAsk(x, all(a, b, or), kinds, row, greater[i][k], api.OK)
			wantAsk(x, all(a, not, b, and), kinds, row, lesser[about[i]][k], api.OK)
			wantAsk(x, all(a, b, not, and), kinds, row, lesser[i][about[k]], api.OK)
			wantAsk(x, all(a, b, and, not), kinds, row, about[lesser[i][k]], api.OK)
			wantAsk(x, all(a, b, or, not), kinds, row, about[greater[i][k]], api.OK)
			wantAsk(x, all(a, b, not, or, not, not), kinds, row, greater[i][about[k]], api.OK)
		}
		wantAsk(x, all(a, not), kinds, of(asked(i), gone), about[i], api.OK)
		wantAsk(x, all(b, not), kinds, of(gone, asked(i)), about[i], api.OK)
		wantAsk(x, all(a, a, a, a, a, a, a, a, and, and, and, or, or, or, or), kinds, of(asked(i), gone), i, api.OK)
	}
	// A node is of those right ahead of it.
	x3 := []int{api.Number, api.Number, api.Number}
	c := is(in(5), 2)
	for i := range 27 {
		p, q, r := i/9, i/3%3, i%3
		row := of(asked(p), asked(q), asked(r))
		wantAsk(x, all(a, b, c, and, or), x3, row, greater[p][lesser[q][r]], api.OK)
		wantAsk(x, all(a, b, and, c, or), x3, row, greater[lesser[p][q]][r], api.OK)
		wantAsk(x, all(a, b, c, or, and), x3, row, lesser[p][greater[q][r]], api.OK)
		wantAsk(x, all(a, b, c, not, or, and), x3, row, lesser[p][greater[q][about[r]]], api.OK)
	}
}

func TestO2Rows(x *testing.T) {
	p := all(null(0))
	wantAsk(x, p, both, of(in(5), tx("a")), 0, api.OK)
	wantAsk(x, p, both, of(gone, tx("a")), 2, api.OK)
	for _, row := range [][]api.Cell{nil, of(), of(in(5)), of(in(5), tx("a"), gone), of(tx("a"), in(5), gone), of(tx("a")), make([]api.Cell, 100)} {
		wantAsk(x, p, both, row, 0, api.ErrForm)
	}
	for _, c := range []struct {
		row []api.Cell
		e   api.Errno
	}{
		{of(tx("a"), tx("a")), api.ErrKind},
		{of(in(5), in(5)), api.ErrKind},
		{of(in(5), api.Cell{Kind: 3}), api.ErrKind},
		{of(in(5), api.Cell{Kind: -1}), api.ErrKind},
		{of(in(5), api.Cell{N: 1}), api.ErrForm},
		{of(api.Cell{S: "a"}, gone), api.ErrForm},
		{of(api.Cell{Kind: api.Number, S: "a"}, gone), api.ErrForm},
		{of(gone, tx(wide+"w")), api.ErrMany},
		{of(gone, api.Cell{Kind: api.Text, N: 1, S: wide + "w"}), api.ErrForm},
		// The first cell of which something is wrong tells.
		{of(tx("a"), tx(wide+"w")), api.ErrKind},
		{of(api.Cell{N: 1}, in(5)), api.ErrForm},
		{of(gone, in(5)), api.ErrKind},
	} {
		wantAsk(x, p, both, c.row, 0, c.e)
	}
	wantAsk(x, all(is(tx("a"), 1)), both, of(gone, tx(wide)), 0, api.OK)
	wantAsk(x, all(is(tx(wide), 1)), both, of(in(math.MaxUint64), tx(wide)), 2, api.OK)
}

// A column of no kind that is not asked of is told by its cell.
func TestO2Kinds(x *testing.T) {
	for _, kind := range []int{math.MinInt, -1, 0, 3, math.MaxInt} {
		kinds := []int{api.Number, kind, api.Text}
		wantAsk(x, all(null(0)), kinds, of(gone, gone, gone), 0, api.ErrKind)
		wantAsk(x, all(null(0)), kinds, of(gone, api.Cell{Kind: kind}, tx(wide+"w")), 0, api.ErrKind)
		wantAsk(x, all(null(0)), kinds, of(api.Cell{N: 1}, gone, gone), 0, api.ErrForm)
		wantAsk(x, all(null(0)), kinds, of(gone, gone), 0, api.ErrForm)
	}
	// There may be more columns than a list has cells.
	kinds, row := slices.Repeat([]int{api.Number}, 200), slices.Repeat(of(in(7)), 200)
	wantAsk(x, all(is(in(7), 199), null(0), not, and), kinds, row, 2, api.OK)
	row[199] = tx("a")
	wantAsk(x, all(is(in(7), 0)), kinds, row, 0, api.ErrKind)
}

// Leaves, of a column of which this is known.
func TestO3Leaves(x *testing.T) {
	for _, c := range []struct {
		s                    api.Stats
		is, less, more, null int
	}{
		// No cells at all.
		{known(0, 0, gone, gone), 0, 0, 0, 0},
		// Nulls alone.
		{known(1, 1, gone, gone), u, u, u, t},
		{known(128, 128, gone, gone), u, u, u, t},
		// No Null.
		{known(1, 0, in(5), in(5)), t, f, f, f},
		{known(9, 0, in(5), in(5)), t, f, f, f},
		{known(1, 0, in(4), in(4)), f, t, f, f},
		{known(1, 0, in(6), in(6)), f, f, t, f},
		{known(2, 0, in(4), in(5)), f | t, f | t, f, f},
		{known(2, 0, in(5), in(6)), f | t, f, f | t, f},
		{known(2, 0, in(4), in(6)), f | t, f | t, f | t, f},
		{known(2, 0, in(0), in(4)), f, t, f, f},
		{known(2, 0, in(6), in(math.MaxUint64)), f, f, t, f},
		{known(2, 0, in(0), in(math.MaxUint64)), f | t, f | t, f | t, f},
		// Some of both.
		{known(2, 1, in(5), in(5)), u | t, f | u, f | u, f | t},
		{known(2, 1, in(4), in(4)), f | u, u | t, f | u, f | t},
		{known(2, 1, in(6), in(6)), f | u, f | u, u | t, f | t},
		{known(3, 1, in(4), in(5)), f | u | t, f | u | t, f | u, f | t},
		{known(3, 1, in(5), in(6)), f | u | t, f | u, f | u | t, f | t},
		{known(128, 127, in(4), in(6)), f | u | t, f | u | t, f | u | t, f | t},
	} {
		for _, filter := range [][4]uint64{full, bloom.Of(of(in(5))), bloom.Of(of(in(5), in(6), gone))} {
			kinds, s, fs := []int{api.Number}, []api.Stats{c.s}, [][4]uint64{filter}
			wantPrune(x, all(is(in(5), 0)), kinds, s, fs, c.is, api.OK)
			wantPrune(x, all(less(in(5), 0)), kinds, s, fs, c.less, api.OK)
			wantPrune(x, all(more(in(5), 0)), kinds, s, fs, c.more, api.OK)
			wantPrune(x, all(null(0)), kinds, s, fs, c.null, api.OK)
		}
	}
}

// Of texts it goes byte by byte.
func TestO3Texts(x *testing.T) {
	for _, c := range []struct {
		least, most, of string
		is, less, more  int
	}{
		{"rook", "rook", "rook", t, f, f},
		{"roo", "roo", "rook", f, t, f},
		{"rooks", "rooks", "rook", f, f, t},
		{"roo", "rook", "rook", f | t, f | t, f},
		{"rook", "rooks", "rook", f | t, f, f | t},
		{"Rook", "wren", "rook", f | t, f | t, f | t},
		{"", "", "", t, f, f},
		{"", wide, "", f | t, f, f | t},
		{"\x00", "\xff", "", f, f, t},
		{"", "\xfe", "\xff", f, t, f},
		{wide[:15], wide, wide, f | t, f | t, f},
	} {
		kinds, fs := []int{api.Text}, [][4]uint64{full}
		s := []api.Stats{known(7, 0, tx(c.least), tx(c.most))}
		wantPrune(x, all(is(tx(c.of), 0)), kinds, s, fs, c.is, api.OK)
		wantPrune(x, all(less(tx(c.of), 0)), kinds, s, fs, c.less, api.OK)
		wantPrune(x, all(more(tx(c.of), 0)), kinds, s, fs, c.more, api.OK)
	}
}

// A filter says something of Is alone, and of C alone.
func TestO3Filters(x *testing.T) {
	without := func(c api.Cell) [4]uint64 {
		filter := full
		for i, word := range bloom.Of(of(c)) {
			filter[i] &^= word & -word
		}
		return filter
	}
	for _, filter := range [][4]uint64{{}, bloom.Of(of(in(4), in(6))), without(in(5))} {
		for _, s := range []api.Stats{known(1, 0, in(5), in(5)), known(2, 0, in(4), in(6)), known(2, 0, in(5), in(9))} {
			kinds, k, fs := []int{api.Number}, []api.Stats{s}, [][4]uint64{filter}
			wantPrune(x, all(is(in(5), 0)), kinds, k, fs, f, api.OK)
			k[0].Nulls, k[0].Rows = 1, s.Rows+1
			wantPrune(x, all(is(in(5), 0)), kinds, k, fs, f|u, api.OK)
			wantPrune(x, all(null(0)), kinds, k, fs, f|t, api.OK)
		}
		s := []api.Stats{known(2, 0, in(4), in(6))}
		wantPrune(x, all(less(in(5), 0)), []int{api.Number}, s, [][4]uint64{filter}, f|t, api.OK)
		wantPrune(x, all(more(in(5), 0)), []int{api.Number}, s, [][4]uint64{filter}, f|t, api.OK)
		nulls := []api.Stats{known(2, 2, gone, gone)}
		wantPrune(x, all(is(in(5), 0)), []int{api.Number}, nulls, [][4]uint64{filter}, u, api.OK)
		wantPrune(x, all(null(0)), []int{api.Number}, nulls, [][4]uint64{filter}, t, api.OK)
	}
	// Each column has its own.
	fs := [][4]uint64{bloom.Of(of(in(5))), {}}
	k := []api.Stats{known(2, 0, in(4), in(6)), known(2, 0, tx("a"), tx("z"))}
	wantPrune(x, all(is(in(5), 0)), both, k, fs, f|t, api.OK)
	wantPrune(x, all(is(tx("b"), 1)), both, k, fs, f, api.OK)
	slices.Reverse(fs)
	wantPrune(x, all(is(in(5), 0)), both, k, fs, f, api.OK)
}

// maybe: what is known of a column, of which it may be of each set that it is 5.
func maybe(set int) api.Stats {
	switch set {
	case f:
		return known(3, 0, in(6), in(9))
	case u:
		return known(3, 3, gone, gone)
	case t:
		return known(3, 0, in(5), in(5))
	case f | u:
		return known(3, 1, in(6), in(9))
	case f | t:
		return known(3, 0, in(2), in(9))
	case u | t:
		return known(3, 2, in(5), in(5))
	case f | u | t:
		return known(3, 1, in(2), in(9))
	}
	return known(0, 0, gone, gone)
}

// has: is a truth value in a set?
func has(set, truth int) bool { return []int{f, u, t}[truth]&set != 0 }

// of two sets: what may come of any two.
func come(a, b int, how func(a, b int) int) int {
	set := 0
	for i := range 3 {
		for k := range 3 {
			if has(a, i) && has(b, k) {
				set |= []int{f, u, t}[how(i, k)]
			}
		}
	}
	return set
}

func lesser(a, b int) int  { return min(a, b) }
func greater(a, b int) int { return max(a, b) }
func about(a, _ int) int   { return 2 - a }

func TestO3Joined(x *testing.T) {
	kinds, fs := []int{api.Number, api.Number}, [][4]uint64{full, full}
	a, b := is(in(5), 0), is(in(5), 1)
	for i := range 8 {
		for k := range 8 {
			s := []api.Stats{maybe(i), maybe(k)}
			wantPrune(x, all(a), kinds, s, fs, i, api.OK)
			wantPrune(x, all(b), kinds, s, fs, k, api.OK)
			wantPrune(x, all(a, not), kinds, s, fs, come(i, i, about), api.OK)
			wantPrune(x, all(b, not, not), kinds, s, fs, k, api.OK)
			wantPrune(x, all(a, b, and), kinds, s, fs, come(i, k, lesser), api.OK)
			wantPrune(x, all(a, b, or), kinds, s, fs, come(i, k, greater), api.OK)
			n := come(k, k, about)
			wantPrune(x, all(a, b, not, and), kinds, s, fs, come(i, n, lesser), api.OK)
			wantPrune(x, all(a, b, not, or, not), kinds, s, fs, come(come(i, n, greater), 7, about), api.OK)
		}
	}
	// Of a node and itself it may be all that may come of each, though never at once.
	wantPrune(x, all(a, a, not, and), kinds, []api.Stats{maybe(f | t), maybe(0)}, fs, f|t, api.OK)
	wantPrune(x, all(a, a, not, or), kinds, []api.Stats{maybe(f | t), maybe(0)}, fs, f|t, api.OK)
	// Of no rows there is nothing.
	wantPrune(x, all(a, b, and), kinds, []api.Stats{maybe(0), maybe(f)}, fs, 0, api.OK)
	wantPrune(x, all(a, b, or), kinds, []api.Stats{maybe(t), maybe(0)}, fs, 0, api.OK)
	// Some sets, written out.
	for _, c := range [][4]int{{f, f | u | t, f, f | u | t}, {t, u | t, u | t, t}, {u, f | t, f | u, u | t}, {f | u, u | t, f | u, u | t}, {u, u, u, u}, {f | t, f | t, f | t, f | t}} {
		s := []api.Stats{maybe(c[0]), maybe(c[1])}
		wantPrune(x, all(a, b, and), kinds, s, fs, c[2], api.OK)
		wantPrune(x, all(a, b, or), kinds, s, fs, c[3], api.OK)
	}
}

func TestO3Errors(x *testing.T) {
	p := all(null(0))
	ok := []api.Stats{known(1, 0, in(5), in(5)), known(1, 1, gone, gone)}
	fs := [][4]uint64{full, full}
	wantPrune(x, p, both, ok, fs, f, api.OK)
	bad := []api.Stats{{Rows: -1}, {Rows: -1}, {Rows: -1}}
	for many := range 4 {
		for marks := range 4 {
			if many != 2 || marks != 2 {
				wantPrune(x, p, both, make([]api.Stats, many), make([][4]uint64, marks), 0, api.ErrForm)
				wantPrune(x, p, both, bad[:many], make([][4]uint64, marks), 0, api.ErrForm)
			}
		}
	}
	for _, c := range []struct {
		s api.Stats
		e api.Errno
	}{
		{known(-1, 0, gone, gone), api.ErrRange},
		{known(129, 129, gone, gone), api.ErrRange},
		{known(1, 2, gone, gone), api.ErrRange},
		{known(1, 0, api.Cell{Kind: 3}, in(5)), api.ErrKind},
		{known(1, 0, in(5), api.Cell{Kind: -1}), api.ErrKind},
		{known(1, 1, api.Cell{N: 1}, gone), api.ErrForm},
		{known(1, 0, gone, gone), api.ErrState},
	} {
		wantPrune(x, p, both, []api.Stats{c.s, ok[1]}, fs, 0, c.e)
		wantPrune(x, p, both, []api.Stats{ok[0], c.s}, fs, 0, c.e)
		wantPrune(x, p, both, []api.Stats{c.s, {Rows: 1, Nulls: 2}}, fs, 0, c.e)
		wantPrune(x, p, both, []api.Stats{{Rows: 2, Nulls: 1}, c.s}, fs, 0, api.ErrState)
	}
	wantPrune(x, p, both, []api.Stats{ok[0], known(1, 0, tx(wide+"w"), tx(wide+"w"))}, fs, 0, api.ErrMany)
	wantPrune(x, p, both, []api.Stats{known(2, 0, in(5), in(4)), ok[1]}, fs, 0, api.ErrState)
	wantPrune(x, p, both, []api.Stats{known(1, 0, tx("a"), tx("a")), ok[1]}, fs, 0, api.ErrKind)
	// A column of no kind that is not asked of is told by what is known of it.
	for _, kind := range []int{math.MinInt, -1, 0, 3, math.MaxInt} {
		wantPrune(x, p, []int{api.Number, kind}, ok, fs, 0, api.ErrKind)
		wantPrune(x, p, []int{api.Number, kind}, []api.Stats{{Rows: -1}, {}}, fs, 0, api.ErrRange)
		wantPrune(x, p, []int{api.Number, kind}, ok, fs[:1], 0, api.ErrForm)
	}
	wantPrune(x, all(null(199)), slices.Repeat(both, 100), slices.Repeat(ok, 100), slices.Repeat(fs, 100), t, api.OK)
}

// tree: a condition, with those that it is of.
type tree struct {
	top  api.Cond
	kids []tree
}

// nodes of a tree, each one behind its kids.
func (k tree) nodes() []api.Cond {
	var out []api.Cond
	for _, kid := range k.kids {
		out = append(out, kid.nodes()...)
	}
	return append(out, k.top)
}

// grown: a tree of so many nodes, of columns of numbers and texts.
func grown(d *draw, many int) tree {
	if many == 1 {
		col := d.n(2)
		c := api.Cond{Op: 1 + d.n(4), Col: col}
		if c.Op != api.Gone {
			c.C = cell(d, both[col])
		}
		return tree{top: c}
	}
	if many == 2 || d.n(4) == 0 {
		return tree{top: not, kids: []tree{grown(d, many-1)}}
	}
	left := 1 + d.n(many-2)
	return tree{top: []api.Cond{and, or}[d.n(2)], kids: []tree{grown(d, left), grown(d, many-1-left)}}
}

// cell of a kind, one of a few.
func cell(d *draw, kind int) api.Cell {
	if kind == api.Number {
		return in(uint64(d.n(6)))
	}
	return tx("abcabc"[d.n(4):][:d.n(3)])
}

// asked: what a tree is of a row, as the document tells it.
func (k tree) asked(row []api.Cell) int {
	var kids []int
	for _, kid := range k.kids {
		kids = append(kids, kid.asked(row))
	}
	so := false
	switch c := row[k.top.Col]; k.top.Op {
	case api.And, api.Or:
		slices.Sort(kids)
		return kids[k.top.Op-api.And]
	case api.Not:
		return []int{2, 1, 0}[kids[0]]
	case api.Gone:
		so = c == gone
	default:
		if c == gone {
			return 1
		}
		so = c == k.top.C
		if k.top.Op != api.Is {
			so = nulls.Less(c, k.top.C)
		}
		if k.top.Op == api.More {
			so = !so && c != k.top.C
		}
	}
	if so {
		return 2
	}
	return 0
}

// pruned: what a tree may be, as the document tells it.
func (k tree) pruned(known []api.Stats, filters [][4]uint64) int {
	var kids []int
	for _, kid := range k.kids {
		kids = append(kids, kid.pruned(known, filters))
	}
	s, set := known[k.top.Col], 0
	if s.Nulls > 0 {
		set = u
	}
	below, above := nulls.Less(k.top.C, s.Least), nulls.Less(s.Most, k.top.C)
	some := s.Nulls < s.Rows
	switch k.top.Op {
	case api.And:
		return come(kids[0], kids[1], lesser)
	case api.Or:
		return come(kids[0], kids[1], greater)
	case api.Not:
		return come(kids[0], kids[0], about)
	case api.Gone:
		return set/u*t | map[bool]int{true: f}[some]
	case api.Is:
		if some {
			switch {
			case below || above || !bloom.May(filters[k.top.Col], k.top.C):
				return set | f
			case s.Least == s.Most:
				return set | t
			}
			return set | f | t
		}
	case api.Less, api.More:
		if k.top.Op == api.More {
			below, above = above || s.Most == k.top.C, below
		} else {
			below = below || s.Least == k.top.C
		}
		if some {
			switch {
			case above:
				return set | t
			case below:
				return set | f
			}
			return set | f | t
		}
	}
	return set
}

// rows: so many rows, some of their cells Nulls.
func rows(d *draw, many int) [2][]api.Cell {
	var out [2][]api.Cell
	for col, kind := range both {
		nulls := d.n(4)
		for range many {
			c := cell(d, kind)
			if d.n(3) < nulls {
				c = gone
			}
			out[col] = append(out[col], c)
		}
	}
	return out
}

// What a condition is of a row is in the set of its columns.
func TestO4InTheSet(x *testing.T) {
	d := draw(4)
	seen := map[[2]int]int{}
	for i := range 20000 {
		k := grown(&d, 1+i%api.MaxCond)
		p, l := k.nodes(), rows(&d, 1+d.n(6))
		a, fa := column(api.Number, l[0]...)
		b, fb := column(api.Text, l[1]...)
		s, fs := []api.Stats{a, b}, [][4]uint64{fa, fb}
		set := k.pruned(s, fs)
		wantPrune(x, p, both, s, fs, set, api.OK)
		for at := range l[0] {
			row := of(l[0][at], l[1][at])
			truth := k.asked(row)
			wantAsk(x, p, both, row, truth, api.OK)
			seen[[2]int{set, truth}]++
			if !has(set, truth) {
				x.Errorf("%v is %d of %v, not of the set %d of %v", p, truth, row, set, s)
			}
		}
	}
	if len(seen) != 12 {
		x.Errorf("of the sets and what is in them there are just %v", seen)
	}
}

// So it is, too, in what is known of more than is there.
func TestO4MoreKnown(x *testing.T) {
	d := draw(5)
	for i := range 5000 {
		k := grown(&d, 1+i%api.MaxCond)
		p, l := k.nodes(), rows(&d, 1+d.n(6))
		wider := rows(&d, 1+d.n(4))
		var s []api.Stats
		var fs [][4]uint64
		for col, kind := range both {
			a, fa := column(kind, l[col]...)
			b, fb := column(kind, wider[col]...)
			both, _ := stats.Merge(kind, a, b)
			s, fs = append(s, both), append(fs, bloom.Union(fa, fb))
		}
		set, e := pred.Prune(p, both, s, fs)
		for at := range l[0] {
			truth, ae := pred.Ask(p, both, of(l[0][at], l[1][at]))
			if e != api.OK || ae != api.OK || !has(set, truth) {
				x.Errorf("%v is %d %d of row %d of %v, of the set %d %d", p, truth, ae, at, l, set, e)
			}
		}
	}
}

// strange nodes, and some that are not.
func strange() []api.Cond {
	out := all(and, or, not)
	for _, op := range []int{math.MinInt, -1, 0, 1, 2, 3, 4, 5, 6, 7, 8, math.MaxInt} {
		for _, col := range []int{math.MinInt, -1, 0, 1, 2, 3, math.MaxInt} {
			for _, c := range of(gone, in(5), tx("a"), tx(wide+"w"), api.Cell{N: 1}, api.Cell{Kind: api.Text, N: 1}, api.Cell{Kind: -1}) {
				out = append(out, api.Cond{Op: op, Col: col, C: c})
			}
		}
	}
	return out
}

// wrong: what is wrong with a node ahead of which so many belong to nobody, as the document tells it.
func wrong(c api.Cond, kinds []int, ahead int) api.Errno {
	switch {
	case c.Op < 1 || c.Op > 7:
		return api.ErrKind
	case c.Op >= api.And && (c.Col != 0 || c.C != gone || ahead < 2 && c.Op != api.Not || ahead < 1):
		return api.ErrForm
	case c.Op >= api.And:
		return api.OK
	case c.Col < 0 || c.Col >= len(kinds):
		return api.ErrRange
	case kinds[c.Col] != 1 && kinds[c.Col] != 2:
		return api.ErrKind
	case c.Op == api.Gone && c.C != gone:
		return api.ErrForm
	case c.Op == api.Gone:
		return api.OK
	case nulls.Check(kinds[c.Col], of(c.C)) != api.OK:
		return nulls.Check(kinds[c.Col], of(c.C))
	case c.C.Kind == api.Null:
		return api.ErrKind
	}
	return api.OK
}

// wrongs: what is wrong with a condition, as the document tells it.
func wrongs(p []api.Cond, kinds []int) api.Errno {
	if len(p) > 16 {
		return api.ErrMany
	}
	nobody := 0
	for _, c := range p {
		if e := wrong(c, kinds, nobody); e != api.OK {
			return e
		}
		switch c.Op {
		case api.And, api.Or:
			nobody--
		case api.Not:
		default:
			nobody++
		}
	}
	if nobody != 1 {
		return api.ErrForm
	}
	return api.OK
}

// Whatever is handed in, all calls tell the same of a condition, and with an error
// there is nothing else.
func TestP1Strange(x *testing.T) {
	l := strange()
	lists := [][]int{nil, both, {api.Text, -1, api.Number}, {0, 3}}
	d := draw(1)
	for i := range 60000 {
		var p []api.Cond
		for range d.n(6) {
			if d.n(3) == 0 {
				p = append(p, l[d.n(len(l))])
			} else {
				p = append(p, all(null(0), is(in(5), 0), more(tx("a"), 1), and, or, not)[d.n(6)])
			}
		}
		kinds := lists[i%4]
		e := wrongs(p, kinds)
		wantCheck(x, p, kinds, e)
		row, s := make([]api.Cell, d.n(4)), make([]api.Stats, d.n(4))
		g, ge := pred.Ask(p, kinds, row)
		h, he := pred.Prune(p, kinds, s, make([][4]uint64, len(s)))
		if e != api.OK && (ge != e || he != e) || ge != api.OK && g != 0 || he != api.OK && h != 0 {
			x.Errorf("of %v, of error %d, Ask tells %d %d, Prune %d %d", p, e, g, ge, h, he)
		}
		if g < 0 || g > 2 || h < 0 || h > 7 || e == api.OK && len(row) != len(kinds) && ge != api.ErrForm {
			x.Errorf("of %v Ask tells %d %d, Prune %d %d", p, g, ge, h, he)
		}
	}
	for _, c := range l {
		wantCheck(x, all(c), both, wrongs(all(c), both))
		wantCheck(x, all(null(0), c), both, wrongs(all(null(0), c), both))
		wantCheck(x, all(null(0), null(0), c), both, wrongs(all(null(0), null(0), c), both))
	}
}

func TestP2OnlyRead(x *testing.T) {
	p := all(is(in(5), 0), is(tx("a"), 1), not, and, or, not, null(0))
	kinds, row := []int{api.Number, api.Text, api.Number}, of(in(5), tx("b"), gone)
	a, fa := column(api.Number, in(5), in(7))
	b, fb := column(api.Text, tx("b"), gone)
	s, fs := []api.Stats{a, b, a}, [][4]uint64{fa, fb, fa}
	wasP, wasKinds, wasRow, wasS, wasF := slices.Clone(p), slices.Clone(kinds), slices.Clone(row), slices.Clone(s), slices.Clone(fs)
	wantCheck(x, p[:4], kinds[:2], api.OK)
	wantAsk(x, p[:4], kinds[:2], row[:2], 2, api.OK)
	wantPrune(x, p[:4], kinds[:2], s[:2], fs[:2], f|u|t, api.OK)
	if !slices.Equal(p, wasP) || !slices.Equal(kinds, wasKinds) || !slices.Equal(row, wasRow) || !slices.Equal(s, wasS) || !slices.Equal(fs, wasF) {
		x.Error("a list, or the room behind it, was changed")
	}
}

func TestP3SameAgain(x *testing.T) {
	p := all(is(in(5), 0), less(tx("b"), 1), and)
	a, fa := column(api.Number, in(5), in(7))
	b, fb := column(api.Text, tx("b"), tx("a"))
	var many sync.WaitGroup
	for range 8 {
		many.Go(func() {
			for range 200 {
				pred.Check(all(and), both)
				pred.Ask(p, both, nil)
				pred.Prune(all(null(0), not), both, make([]api.Stats, 2), make([][4]uint64, 2))
				wantCheck(x, p, both, api.OK)
				wantAsk(x, p, both, of(in(5), tx("a")), 2, api.OK)
				wantAsk(x, p, both, of(in(5), gone), 1, api.OK)
				wantPrune(x, p, both, []api.Stats{a, b}, [][4]uint64{fa, fb}, f|t, api.OK)
			}
		})
	}
	many.Wait()
}

func TestP4LongOnes(x *testing.T) {
	if e := pred.Check(make([]api.Cond, 1<<22), both); e != api.ErrMany {
		x.Errorf("Check of a long condition has error %d", e)
	}
	long := tx(strings.Repeat("x", 1<<24))
	if e := pred.Check(all(is(long, 1)), both); e != api.ErrMany {
		x.Errorf("Check of a long text has error %d", e)
	}
	if g, e := pred.Ask(all(null(0)), both, of(gone, long)); g != 0 || e != api.ErrMany {
		x.Errorf("Ask of a long text has error %d", e)
	}
	kinds := slices.Repeat(both, 1<<19)
	row := make([]api.Cell, len(kinds))
	if g, e := pred.Ask(all(null(len(kinds)-1)), kinds, row); g != 2 || e != api.OK {
		x.Errorf("Ask of many columns = %d %d", g, e)
	}
	s := slices.Repeat([]api.Stats{known(1, 1, gone, gone)}, len(kinds))
	if g, e := pred.Prune(all(null(len(kinds)-1)), kinds, s, make([][4]uint64, len(kinds))); g != t || e != api.OK {
		x.Errorf("Prune of many columns = %d %d", g, e)
	}
}
