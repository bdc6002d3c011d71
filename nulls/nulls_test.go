package nulls_test

import (
	"bytes"
	"math"
	"slices"
	"strings"
	"sync"
	"testing"

	"hypostyle/api"
	"hypostyle/nulls"
)

// of: a list of cells.
func of(l ...api.Cell) []api.Cell { return l }

// marked: a list of marks, true where there is a 1.
func marked(s string) []bool {
	l := make([]bool, len(s))
	for i := range s {
		l[i] = s[i] == '1'
	}
	return l
}

func in(n uint64) api.Cell { return api.Cell{Kind: api.Number, N: n} }
func tx(s string) api.Cell { return api.Cell{Kind: api.Text, S: s} }

// gone: a Null.
var gone api.Cell

// wide: a text of the most bytes.
var wide = strings.Repeat("w", api.MaxText)

// thing: a cell of a kind, another one for each place.
func thing(kind, at int) api.Cell {
	if kind == api.Number {
		return in(uint64(at) * (math.MaxUint64 / 64))
	}
	return tx((string([]byte{byte(at), byte(255 - at)}) + wide)[:at%17])
}

// sample: so many cells of a kind, some of them Nulls.
func sample(kind, many int) []api.Cell {
	l := make([]api.Cell, many)
	for i := range l {
		if (i*i+many)%7 < 4 {
			l[i] = thing(kind, i)
		}
	}
	return l
}

// full: so many cells of a kind, none of them a Null.
func full(kind, many int) []api.Cell {
	l := make([]api.Cell, many)
	for i := range l {
		l[i] = thing(kind, i)
	}
	return l
}

// trues: so many marks that are true.
func trues(many int) []bool { return slices.Repeat([]bool{true}, many) }

// parted: whether each cell is there, and those that are.
func parted(l []api.Cell) ([]bool, []api.Cell) {
	var marks []bool
	var there []api.Cell
	for _, c := range l {
		marks = append(marks, c != gone)
		if c != gone {
			there = append(there, c)
		}
	}
	return marks, there
}

func wantCheck(t *testing.T, kind int, l []api.Cell, e api.Errno) {
	t.Helper()
	if ge := nulls.Check(kind, l); ge != e {
		t.Errorf("Check(%d, %v) = %d, must be %d", kind, l, ge, e)
	}
}

func wantSplit(t *testing.T, kind int, l []api.Cell, marks []bool, there []api.Cell, e api.Errno) {
	t.Helper()
	gm, gt, ge := nulls.Split(kind, l)
	if !slices.Equal(gm, marks) || !slices.Equal(gt, there) || ge != e {
		t.Errorf("Split(%d, %v) = %v %v %d, must be %v %v %d", kind, l, gm, gt, ge, marks, there, e)
	}
}

func wantJoin(t *testing.T, kind int, marks []bool, l, out []api.Cell, e api.Errno) {
	t.Helper()
	if got, ge := nulls.Join(kind, marks, l); !slices.Equal(got, out) || ge != e {
		t.Errorf("Join(%d, %v, %v) = %v %d, must be %v %d", kind, marks, l, got, ge, out, e)
	}
}

func wantAt(t *testing.T, kind int, marks []bool, l []api.Cell, at int, c api.Cell, e api.Errno) {
	t.Helper()
	if got, ge := nulls.At(kind, marks, l, at); got != c || ge != e {
		t.Errorf("At(%d, %v, %v, %d) = %v %d, must be %v %d", kind, marks, l, at, got, ge, c, e)
	}
}

func TestJ1Check(t *testing.T) {
	for _, kind := range []int{api.Number, api.Text} {
		wantCheck(t, kind, nil, api.OK)
		wantCheck(t, kind, of(), api.OK)
		wantCheck(t, kind, of(gone), api.OK)
		wantCheck(t, kind, make([]api.Cell, api.MaxList), api.OK)
		for many := range api.MaxList + 1 {
			wantCheck(t, kind, sample(kind, many), api.OK)
			wantCheck(t, kind, full(kind, many), api.OK)
		}
	}
	wantCheck(t, api.Number, of(in(0)), api.OK)
	wantCheck(t, api.Number, of(in(math.MaxUint64), gone, in(1)), api.OK)
	wantCheck(t, api.Text, of(tx("")), api.OK)
	wantCheck(t, api.Text, of(tx(wide), gone, tx("\x00\xff")), api.OK)
}

func TestJ1CheckErrors(t *testing.T) {
	long := tx(wide + "w")
	other := api.Cell{Kind: 3}
	for _, c := range []struct {
		kind int
		l    []api.Cell
		e    api.Errno
	}{
		// No such kind, whatever else is wrong.
		{api.Null, nil, api.ErrKind},
		{3, nil, api.ErrKind},
		{-1, nil, api.ErrKind},
		{math.MinInt, of(gone), api.ErrKind},
		{math.MaxInt, of(gone), api.ErrKind},
		{1<<32 + 1, of(in(1)), api.ErrKind},
		{api.Null, of(gone), api.ErrKind},
		{api.Null, make([]api.Cell, api.MaxList+1), api.ErrKind},
		{3, of(other), api.ErrKind},
		{3, make([]api.Cell, 5000), api.ErrKind},
		// Too many, whatever they are.
		{api.Number, make([]api.Cell, api.MaxList+1), api.ErrMany},
		{api.Text, make([]api.Cell, api.MaxList+1), api.ErrMany},
		{api.Number, make([]api.Cell, 5000), api.ErrMany},
		{api.Number, append(of(other), make([]api.Cell, api.MaxList)...), api.ErrMany},
		{api.Number, append(of(api.Cell{N: 1}), make([]api.Cell, api.MaxList)...), api.ErrMany},
		// Neither a Null nor of that kind.
		{api.Number, of(tx("")), api.ErrKind},
		{api.Text, of(in(0)), api.ErrKind},
		{api.Number, of(other), api.ErrKind},
		{api.Text, of(api.Cell{Kind: -1}), api.ErrKind},
		{api.Number, of(in(1), gone, tx("a")), api.ErrKind},
		// A cell of another kind is told of ahead of what it has.
		{api.Number, of(api.Cell{Kind: api.Text, N: 1}), api.ErrKind},
		{api.Number, of(long), api.ErrKind},
		{api.Text, of(api.Cell{Kind: api.Number, S: wide + "w"}), api.ErrKind},
		{api.Text, of(api.Cell{Kind: 3, N: 1, S: wide + "w"}), api.ErrKind},
		// N of what is no Number, S of what is no Text.
		{api.Number, of(api.Cell{N: 1}), api.ErrForm},
		{api.Number, of(api.Cell{S: "a"}), api.ErrForm},
		{api.Number, of(api.Cell{Kind: api.Number, S: "a"}), api.ErrForm},
		{api.Number, of(api.Cell{Kind: api.Number, N: 1, S: "a"}), api.ErrForm},
		{api.Text, of(api.Cell{N: 1}), api.ErrForm},
		{api.Text, of(api.Cell{S: "a"}), api.ErrForm},
		{api.Text, of(api.Cell{Kind: api.Text, N: 1}), api.ErrForm},
		{api.Text, of(api.Cell{Kind: api.Text, N: math.MaxUint64, S: "a"}), api.ErrForm},
		// The form ahead of too long a text.
		{api.Number, of(api.Cell{Kind: api.Number, S: wide + "w"}), api.ErrForm},
		{api.Number, of(api.Cell{S: wide + "w"}), api.ErrForm},
		{api.Text, of(api.Cell{S: wide + "w"}), api.ErrForm},
		{api.Text, of(api.Cell{Kind: api.Text, N: 1, S: wide + "w"}), api.ErrForm},
		// Too long a text.
		{api.Text, of(long), api.ErrMany},
		{api.Text, of(tx(strings.Repeat("x", 5000))), api.ErrMany},
		{api.Text, of(tx(wide), gone, long), api.ErrMany},
		// The first cell of which something is wrong tells.
		{api.Text, of(long, in(1)), api.ErrMany},
		{api.Text, of(gone, long, api.Cell{N: 1}), api.ErrMany},
		{api.Text, of(api.Cell{N: 1}, in(1), long), api.ErrForm},
		{api.Text, of(in(1), api.Cell{N: 1}, long), api.ErrKind},
	} {
		wantCheck(t, c.kind, c.l, c.e)
		wantSplit(t, c.kind, c.l, nil, nil, c.e)
		// Join and At tell the same ahead of all that is wrong with marks and place.
		for _, marks := range [][]bool{nil, trues(len(c.l)), make([]bool, api.MaxList+1)} {
			wantJoin(t, c.kind, marks, c.l, nil, c.e)
			wantAt(t, c.kind, marks, c.l, -1, gone, c.e)
			wantAt(t, c.kind, marks, c.l, 0, gone, c.e)
		}
	}
}

// At each place one wrong cell is seen.
func TestJ1CheckEachPlace(t *testing.T) {
	for _, kind := range []int{api.Number, api.Text} {
		for i := range api.MaxList {
			l := sample(kind, api.MaxList)
			l[i] = thing(3-kind, i)
			wantCheck(t, kind, l, api.ErrKind)
			l[i] = api.Cell{Kind: 7}
			wantCheck(t, kind, l, api.ErrKind)
			l[i] = api.Cell{N: 1}
			wantCheck(t, kind, l, api.ErrForm)
			l[i] = api.Cell{S: "\x00"}
			wantCheck(t, kind, l, api.ErrForm)
			l[i] = api.Cell{Kind: kind, N: 1, S: "a"}
			wantCheck(t, kind, l, api.ErrForm)
		}
	}
	for i := range api.MaxList {
		l := sample(api.Text, api.MaxList)
		l[i] = tx(wide + "\x00")
		wantCheck(t, api.Text, l, api.ErrMany)
	}
}

func TestJ2Split(t *testing.T) {
	wantSplit(t, api.Number, nil, nil, nil, api.OK)
	wantSplit(t, api.Text, of(), nil, nil, api.OK)
	wantSplit(t, api.Number, of(gone), marked("0"), nil, api.OK)
	wantSplit(t, api.Number, of(in(0)), marked("1"), of(in(0)), api.OK)
	wantSplit(t, api.Text, of(tx("")), marked("1"), of(tx("")), api.OK)
	wantSplit(t, api.Text, of(tx("rook"), gone, tx("wren")), marked("101"), of(tx("rook"), tx("wren")), api.OK)
	wantSplit(t, api.Number, of(gone, in(9), gone, in(2), in(9), gone), marked("010110"), of(in(9), in(2), in(9)), api.OK)
	wantSplit(t, api.Text, make([]api.Cell, api.MaxList), make([]bool, api.MaxList), nil, api.OK)
	for many := range api.MaxList + 1 {
		for _, kind := range []int{api.Number, api.Text} {
			l := sample(kind, many)
			marks, there := parted(l)
			wantSplit(t, kind, l, marks, there, api.OK)
			wantSplit(t, kind, full(kind, many), trues(many), full(kind, many), api.OK)
		}
	}
}

func TestJ2Join(t *testing.T) {
	wantJoin(t, api.Number, nil, nil, nil, api.OK)
	wantJoin(t, api.Text, marked("0"), nil, of(gone), api.OK)
	wantJoin(t, api.Number, marked("1"), of(in(0)), of(in(0)), api.OK)
	wantJoin(t, api.Text, marked("101"), of(tx("rook"), tx("wren")), of(tx("rook"), gone, tx("wren")), api.OK)
	wantJoin(t, api.Number, marked("0110"), of(in(5), in(3)), of(gone, in(5), in(3), gone), api.OK)
	wantJoin(t, api.Number, make([]bool, api.MaxList), nil, make([]api.Cell, api.MaxList), api.OK)
	wantJoin(t, api.Text, trues(api.MaxList), full(api.Text, api.MaxList), full(api.Text, api.MaxList), api.OK)
}

func TestJ2JoinErrors(t *testing.T) {
	for _, c := range []struct {
		kind  int
		marks []bool
		l     []api.Cell
		e     api.Errno
	}{
		// One of the cells is a Null: ahead of what is wrong with the marks.
		{api.Number, marked("1"), of(gone), api.ErrKind},
		{api.Number, nil, of(gone), api.ErrKind},
		{api.Text, marked("11"), of(tx("a"), gone), api.ErrKind},
		{api.Number, make([]bool, api.MaxList+1), of(in(1), gone), api.ErrKind},
		{api.Number, trues(api.MaxList), append(full(api.Number, api.MaxList-1), gone), api.ErrKind},
		// Too many marks: ahead of how many of them are true.
		{api.Number, make([]bool, api.MaxList+1), nil, api.ErrMany},
		{api.Number, make([]bool, api.MaxList+1), of(in(1)), api.ErrMany},
		{api.Number, trues(api.MaxList + 1), full(api.Number, api.MaxList), api.ErrMany},
		{api.Text, append(marked("1"), make([]bool, api.MaxList)...), of(tx("a")), api.ErrMany},
		{api.Text, make([]bool, 5000), nil, api.ErrMany},
		// Not as many are true as there are cells.
		{api.Number, nil, of(in(1)), api.ErrForm},
		{api.Number, marked("0"), of(in(1)), api.ErrForm},
		{api.Number, marked("1"), nil, api.ErrForm},
		{api.Number, marked("11"), of(in(1)), api.ErrForm},
		{api.Text, marked("010"), of(tx("a"), tx("b")), api.ErrForm},
		{api.Text, trues(api.MaxList), full(api.Text, api.MaxList-1), api.ErrForm},
		{api.Text, trues(api.MaxList - 1), full(api.Text, api.MaxList), api.ErrForm},
		// What Check tells of a later cell comes ahead of a Null.
		{api.Number, marked("11"), of(gone, api.Cell{N: 1}), api.ErrForm},
		{api.Text, marked("11"), of(gone, tx(wide+"w")), api.ErrMany},
		{api.Text, nil, of(gone, api.Cell{S: "a"}), api.ErrForm},
	} {
		wantJoin(t, c.kind, c.marks, c.l, nil, c.e)
		for _, at := range []int{math.MinInt, -1, 0, 1, 2, 64, 5000, math.MaxInt} {
			wantAt(t, c.kind, c.marks, c.l, at, gone, c.e)
		}
	}
}

func TestJ2At(t *testing.T) {
	marks := marked("0101100")
	l := of(tx("rook"), tx("wren"), tx(""))
	for at, c := range of(gone, tx("rook"), gone, tx("wren"), tx(""), gone, gone) {
		wantAt(t, api.Text, marks, l, at, c, api.OK)
	}
	for _, at := range []int{-1, math.MinInt, 7, 8, 64, math.MaxInt} {
		wantAt(t, api.Text, marks, l, at, gone, api.ErrRange)
	}
	wantAt(t, api.Number, marked("1"), of(in(7)), 0, in(7), api.OK)
	wantAt(t, api.Number, marked("1"), of(in(7)), 1, gone, api.ErrRange)
	wantAt(t, api.Number, marked("0"), nil, 0, gone, api.OK)
	wantAt(t, api.Number, nil, nil, 0, gone, api.ErrRange)
	wantAt(t, api.Number, nil, nil, -1, gone, api.ErrRange)
}

// What was split is joined as it was, and each cell of it is found at its place.
func TestJ2AsTheyWere(t *testing.T) {
	for many := range api.MaxList + 1 {
		for _, kind := range []int{api.Number, api.Text} {
			for _, l := range [][]api.Cell{sample(kind, many), full(kind, many), make([]api.Cell, many)} {
				marks, there, _ := nulls.Split(kind, l)
				wantJoin(t, kind, marks, there, l, api.OK)
				for at, c := range l {
					wantAt(t, kind, marks, there, at, c, api.OK)
				}
				wantAt(t, kind, marks, there, many, gone, api.ErrRange)
				wantAt(t, kind, marks, there, -1, gone, api.ErrRange)
			}
		}
	}
}

// And what was joined is split as it was.
func TestJ2JoinedIsSplit(t *testing.T) {
	for n := range 1 << 10 {
		marks := make([]bool, 10)
		many := 0
		for i := range marks {
			marks[i] = n>>i&1 == 1
			many += n >> i & 1
		}
		for _, kind := range []int{api.Number, api.Text} {
			l := full(kind, many)
			joined, _ := nulls.Join(kind, marks, l)
			wantSplit(t, kind, joined, marks, l, api.OK)
		}
	}
}

// cells: cells of whatever kind, with whatever they may not have too.
func cells() []api.Cell {
	var l []api.Cell
	for _, kind := range []int{math.MinInt, -1, 0, 1, 2, 3, math.MaxInt} {
		for _, n := range []uint64{0, 1, math.MaxInt64, math.MaxInt64 + 1, math.MaxUint64} {
			for _, s := range []string{"", "a", "a\x00", "ab", "b", "\x80", "\xff", wide + "w"} {
				l = append(l, api.Cell{Kind: kind, N: n, S: s})
			}
		}
	}
	return l
}

// less: is a cell less than another one, as the document says it?
func less(a, b api.Cell) bool {
	switch {
	case a.Kind == 0 && b.Kind != 0:
		return true
	case b.Kind == 0 && a.Kind != 0:
		return false
	case a.Kind != b.Kind:
		return a.Kind < b.Kind
	case a.N != b.N:
		return a.N < b.N
	}
	return bytes.Compare([]byte(a.S), []byte(b.S)) < 0
}

func TestJ3Less(t *testing.T) {
	rising := of(gone, api.Cell{S: "a"}, api.Cell{N: 1}, api.Cell{Kind: math.MinInt}, api.Cell{Kind: -1, N: 9, S: "z"},
		in(0), api.Cell{Kind: 1, S: "a"}, in(1), in(1<<63-1), in(1<<63), in(math.MaxUint64),
		tx(""), tx("\x00"), tx("a"), tx("a\x00"), tx("ab"), tx("b"), tx("\x7f"), tx("\x80"), tx("\xff"), api.Cell{Kind: 2, N: 1}, api.Cell{Kind: 3}, api.Cell{Kind: math.MaxInt})
	for i, a := range rising {
		for k, b := range rising {
			if got := nulls.Less(a, b); got != (i < k) {
				t.Errorf("Less(%v, %v) = %v", a, b, got)
			}
		}
	}
	for _, a := range cells() {
		for _, b := range cells() {
			if got := nulls.Less(a, b); got != less(a, b) {
				t.Errorf("Less(%v, %v) = %v", a, b, got)
			}
		}
	}
}

func TestP1Strange(t *testing.T) {
	lists := [][]api.Cell{nil, of(gone), cells(), make([]api.Cell, 1000), full(api.Number, 64), full(api.Text, 64), of(tx(strings.Repeat("\xff", 1<<16)))}
	for _, c := range cells() {
		lists = append(lists, of(c))
	}
	marks := [][]bool{nil, marked("0"), marked("1"), trues(64), trues(65), make([]bool, 1000)}
	for _, kind := range []int{math.MinInt, -1, 0, 1, 2, 3, math.MaxInt} {
		for _, l := range lists {
			e := nulls.Check(kind, l)
			if m, there, f := nulls.Split(kind, l); f != e || e != api.OK && (len(m) != 0 || len(there) != 0) {
				t.Errorf("Split(%d, %v) = %v %v %d", kind, l, m, there, f)
			}
			for _, m := range marks {
				out, f := nulls.Join(kind, m, l)
				if f != api.OK && len(out) != 0 || f == api.OK && len(out) != len(m) || e != api.OK && f != e {
					t.Errorf("Join(%d, %v, %v) = %v %d", kind, m, l, out, f)
				}
				for _, at := range []int{math.MinInt, -1, 0, 1, 63, 64, 65, math.MaxInt} {
					c, g := nulls.At(kind, m, l, at)
					if g != api.OK && c != gone || f != api.OK && g != f || f == api.OK && g == api.OK && c != out[at] {
						t.Errorf("At(%d, %v, %v, %d) = %v %d", kind, m, l, at, c, g)
					}
				}
			}
		}
	}
}

func TestP2OnlyRead(t *testing.T) {
	l := sample(api.Text, 40)
	was := slices.Clone(l)
	marks, there, _ := nulls.Split(api.Text, l[:20])
	nulls.Check(api.Text, l[:20])
	if !slices.Equal(l, was) {
		t.Error("a list, or the room behind it, was changed")
	}
	clear(l)
	wantJoin(t, api.Text, marks, there, was[:20], api.OK)
	room, more := append(slices.Clone(marks), trues(20)...), append(slices.Clone(there), full(api.Text, 20)...)
	roomWas, moreWas := slices.Clone(room), slices.Clone(more)
	nulls.Join(api.Text, room[:20], more[:len(there)])
	nulls.At(api.Text, room[:20], more[:len(there)], 3)
	if !slices.Equal(room, roomWas) || !slices.Equal(more, moreWas) {
		t.Error("marks, cells, or the room behind them, were changed")
	}
}

func TestP2NewMemory(t *testing.T) {
	for _, kind := range []int{api.Number, api.Text} {
		for _, l := range [][]api.Cell{sample(kind, 30), full(kind, 30), make([]api.Cell, 30)} {
			was := slices.Clone(l)
			wasMarks, wasThere := parted(l)
			marks, there, _ := nulls.Split(kind, l)
			joined, _ := nulls.Join(kind, marks, there)
			clear(marks[:cap(marks)])
			clear(there[:cap(there)])
			if !slices.Equal(l, was) || !slices.Equal(joined, was) {
				t.Error("marks, or cells, share memory with what was handed in, or with another answer")
			}
			marks, there, _ = nulls.Split(kind, l)
			clear(joined[:cap(joined)])
			if !slices.Equal(marks, wasMarks) || !slices.Equal(there, wasThere) || !slices.Equal(l, was) {
				t.Error("what is joined shares memory with what was handed in")
			}
		}
	}
}

func TestP3SameAgain(t *testing.T) {
	l := sample(api.Text, 60)
	marks, there := parted(l)
	var all sync.WaitGroup
	for range 8 {
		all.Go(func() {
			for range 100 {
				nulls.Split(api.Number, l)
				nulls.Split(api.Number, sample(api.Number, 61))
				nulls.Join(api.Text, trues(60), there)
				wantCheck(t, api.Text, l, api.OK)
				wantSplit(t, api.Text, l, marks, there, api.OK)
				wantJoin(t, api.Text, marks, there, l, api.OK)
				wantAt(t, api.Text, marks, there, 59, l[59], api.OK)
			}
		})
	}
	all.Wait()
}

func TestP4LongOnes(t *testing.T) {
	many, long := make([]api.Cell, 1<<22), tx(strings.Repeat("x", 1<<24))
	for _, l := range [][]api.Cell{many, of(long), of(gone, long)} {
		if e := nulls.Check(api.Text, l); e != api.ErrMany {
			t.Errorf("Check of a long one is %d", e)
		}
		if m, there, e := nulls.Split(api.Text, l); len(m) != 0 || len(there) != 0 || e != api.ErrMany {
			t.Errorf("Split of a long one has error %d", e)
		}
		if out, e := nulls.Join(api.Text, nil, l); len(out) != 0 || e != api.ErrMany {
			t.Errorf("Join of a long one has error %d", e)
		}
	}
	if out, e := nulls.Join(api.Text, make([]bool, 1<<22), nil); len(out) != 0 || e != api.ErrMany {
		t.Errorf("Join of many marks has error %d", e)
	}
	if c, e := nulls.At(api.Text, make([]bool, 1<<22), nil, 5); c != gone || e != api.ErrMany {
		t.Errorf("At of many marks has error %d", e)
	}
	longer := tx(long.S + "y")
	if !nulls.Less(long, longer) || nulls.Less(longer, long) || nulls.Less(long, long) {
		t.Error("Less of long texts is wrong")
	}
}
