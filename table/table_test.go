package table_test

import (
	"math"
	"slices"
	"strings"
	"sync"
	"testing"

	"hypostyle/api"
	"hypostyle/nulls"
	"hypostyle/pred"
	"hypostyle/table"
)

// of: a list of cells.
func of(l ...api.Cell) []api.Cell { return l }

func in(n uint64) api.Cell { return api.Cell{Kind: api.Number, N: n} }
func tx(s string) api.Cell { return api.Cell{Kind: api.Text, S: s} }

// gone: a Null.
var gone api.Cell

// wide: a text of the most bytes.
var wide = strings.Repeat("w", api.MaxText)

func num(name string) api.Column { return api.Column{Name: name, Kind: api.Number} }
func txt(name string) api.Column { return api.Column{Name: name, Kind: api.Text} }

// cols: a list of columns.
func cols(l ...api.Column) []api.Column { return l }

// tab: a table of columns and their cells.
func tab(c []api.Column, data ...[]api.Cell) api.Table { return api.Table{Cols: c, Data: data} }

// birds: a table of three columns and five rows, each time another one.
func birds() api.Table {
	return tab(cols(num("id"), txt("name"), num("seen")),
		of(in(1), in(2), in(9), gone, in(5)),
		of(tx("rook"), gone, tx("wren"), tx("rook"), tx("")),
		of(in(7), in(7), gone, in(0), in(math.MaxUint64)))
}

// most: a table of the most columns, of so many rows.
func most(rows int) api.Table {
	var t api.Table
	for i := range api.MaxCols {
		kind := 1 + i%2
		t.Cols = append(t.Cols, api.Column{Name: string([]byte{'a' + byte(i)}), Kind: kind})
		t.Data = append(t.Data, sample(kind, rows))
	}
	return t
}

// sample: so many cells of a kind, some of them Nulls.
func sample(kind, many int) []api.Cell {
	l := make([]api.Cell, many)
	for i := range l {
		switch {
		case (i*i+many)%5 == 0:
		case kind == api.Number:
			l[i] = in(uint64(i*i+many) << (i % 50))
		default:
			l[i] = tx((string([]byte{byte(i * 3), byte(255 - i)}) + wide)[:i%17])
		}
	}
	return l
}

// tables that are ones, each time others.
func tables() []api.Table {
	all := []api.Table{{}, birds(), tab(cols(num("a")), nil), tab(cols(txt("a"), num("b")), of(), nil)}
	for _, rows := range []int{0, 1, 2, 3, 17, 64, 65, 127, 128} {
		m := most(rows)
		all = append(all, m, tab(m.Cols[1:3], m.Data[1:3]...))
	}
	return all
}

// wrong: a table that is none, and what is wrong with it.
type wrong struct {
	t api.Table
	e api.Errno
}

// wrongs: of each two errors one that has both, as the document names them.
func wrongs() []wrong {
	long := make([]api.Cell, api.MaxRows+1)
	seven := most(0)
	seven.Cols = append(seven.Cols, num("seven"))
	eight := seven
	eight.Data = make([][]api.Cell, 7)
	return []wrong{
		{seven, api.ErrMany},
		{eight, api.ErrMany},
		{tab(make([]api.Column, 7)), api.ErrMany},
		{tab(cols(num("a"), num("a"))), api.ErrForm},
		{tab(nil, nil), api.ErrForm},
		{tab(nil, of(in(1))), api.ErrForm},
		{tab(cols(num("a")), of(), of()), api.ErrForm},
		{tab(cols(api.Column{Name: "a"})), api.ErrForm},
		{tab(cols(api.Column{Name: "A"}), long), api.ErrForm},
		{tab(cols(num("a"), num("a")), of(), of(tx("x"))), api.ErrTwice},
		{tab(cols(num("a"), api.Column{Name: "a"}), of(), of()), api.ErrTwice},
		{tab(cols(num("a"), num("b"), num("a")), of(), of(), of()), api.ErrTwice},
		{tab(cols(api.Column{Name: "a"}), of()), api.ErrKind},
		{tab(cols(api.Column{Name: "a", Kind: 3}), long), api.ErrKind},
		{tab(cols(api.Column{Name: "a", Kind: -1}), of(api.Cell{Kind: -1})), api.ErrKind},
		{tab(cols(api.Column{Name: "a", Kind: 257}), of()), api.ErrKind},
		{tab(cols(num("a")), long), api.ErrMany},
		{tab(cols(num("a")), slices.Concat(of(tx("x")), long)), api.ErrMany},
		{tab(cols(num("a"), txt("b")), of(), long), api.ErrMany},
		{tab(cols(num("a")), of(in(1), tx("x"))), api.ErrKind},
		{tab(cols(num("a")), slices.Concat(long[:127], of(tx("x")))), api.ErrKind},
		{tab(cols(num("a")), of(api.Cell{S: "a"}, tx("x"))), api.ErrForm},
		{tab(cols(txt("a")), of(tx(wide), tx(wide+"w"), in(1))), api.ErrMany},
		{tab(cols(txt("a")), of(api.Cell{Kind: api.Text, N: 1, S: wide + "w"})), api.ErrForm},
		{tab(cols(num("a"), num("")), of(tx("x")), of()), api.ErrKind},
		{tab(cols(num("a"), num("b")), of(in(1)), of(tx("x"), in(1))), api.ErrKind},
		{tab(cols(num("a"), num("b")), of(in(1)), of()), api.ErrForm},
		{tab(cols(num("a"), num("b")), of(), of(in(1))), api.ErrForm},
		{tab(cols(num("a"), num("b"), num("B")), of(gone), of(gone, gone), of(gone)), api.ErrForm},
		{tab(cols(num("a"), num("b"), num("a")), of(gone), of(gone, gone), of(gone)), api.ErrForm},
		{tab(cols(num("a"), num("b"), num("a")), of(gone), of(gone), of(gone, gone)), api.ErrTwice},
	}
}

// same tables? Lists without elements are the same, nil or not.
func same(a, b api.Table) bool {
	return slices.Equal(a.Cols, b.Cols) && slices.EqualFunc(a.Data, b.Data, slices.Equal[[]api.Cell])
}

// copied: a table that shares no memory with another one.
func copied(t api.Table) api.Table {
	c := api.Table{Cols: slices.Clone(t.Cols)}
	for _, l := range t.Data {
		c.Data = append(c.Data, slices.Clone(l))
	}
	return c
}

// got: what a call answered.
type got struct {
	t api.Table
	e api.Errno
}

// did: what a call answered, as one.
func did(t api.Table, e api.Errno) got { return got{t, e} }

// want: an answer is this table; with an error it is none.
func want(t *testing.T, what string, g got, is api.Table, e api.Errno) {
	t.Helper()
	if g.e != e || !same(g.t, is) {
		t.Errorf("%s = %v %d, must be %v %d", what, g.t, g.e, is, e)
	}
}

// not: an answer is an error.
func not(t *testing.T, what string, g got, e api.Errno) {
	t.Helper()
	want(t, what, g, api.Table{}, e)
}

// names that are ones, and that are none.
func goodNames() []string {
	l := []string{"az", "abcdefghijkl", "zzzzzzzzzzzz"}
	for c := 'a'; c <= 'z'; c++ {
		l = append(l, string(c))
	}
	return l
}

func badNames() []string {
	l := []string{"", "abcdefghijklm", "ab ", " ab", "a\x00", "a1", "a_b", "\u00e9", "aB", strings.Repeat("a", 300)}
	for c := range 256 {
		if c < 'a' || c > 'z' {
			l = append(l, string([]byte{byte(c)}), string([]byte{'a', byte(c), 'b'}))
		}
	}
	return l
}

func TestS1Names(t *testing.T) {
	for _, name := range goodNames() {
		if e := table.Check(tab(cols(num(name)), of(in(1)))); e != api.OK {
			t.Errorf("%q is no name: %d", name, e)
		}
	}
	for _, name := range badNames() {
		if e := table.Check(tab(cols(num(name)), of(in(1)))); e != api.ErrForm {
			t.Errorf("%q as a name has %d", name, e)
		}
	}
}

func TestS1Check(t *testing.T) {
	for _, is := range tables() {
		if e := table.Check(is); e != api.OK {
			t.Errorf("Check(%v) = %d", is, e)
		}
	}
	for _, c := range wrongs() {
		if e := table.Check(c.t); e != c.e {
			t.Errorf("Check(%v) = %d, must be %d", c.t, e, c.e)
		}
	}
}

func TestS1CheckIsFirst(t *testing.T) {
	for _, c := range wrongs() {
		if n, e := table.Rows(c.t); n != 0 || e != c.e {
			t.Errorf("Rows(%v) = %d %d, must have %d", c.t, n, e, c.e)
		}
		if l, e := table.Row(c.t, -1); len(l) != 0 || e != c.e {
			t.Errorf("Row(%v, -1) = %v %d, must have %d", c.t, l, e, c.e)
		}
		not(t, "Add", did(table.Add(c.t, api.Column{}, tx(wide+"w"))), c.e)
		not(t, "Drop", did(table.Drop(c.t, "zz")), c.e)
		not(t, "Rename", did(table.Rename(c.t, "zz", "")), c.e)
		not(t, "Redact", did(table.Redact(c.t, "zz", nil)), c.e)
		not(t, "Keep", did(table.Keep(c.t, make([]api.Cond, 17))), c.e)
		not(t, "Project", did(table.Project(c.t, []string{"zz", "zz"})), c.e)
		not(t, "Project of none", did(table.Project(c.t, nil)), c.e)
		not(t, "Slice", did(table.Slice(c.t, -1, -1)), c.e)
		not(t, "Append of a", did(table.Append(c.t, tab(make([]api.Column, 7)))), c.e)
		not(t, "Append of b", did(table.Append(birds(), c.t)), c.e)
	}
	not(t, "Append of two", did(table.Append(tab(cols(num("a"), num("a")), nil, nil), tab(make([]api.Column, 7)))), api.ErrTwice)
}

func TestS1Rows(t *testing.T) {
	for _, is := range tables() {
		rows := 0
		for _, l := range is.Data {
			rows = len(l)
		}
		if n, e := table.Rows(is); n != rows || e != api.OK {
			t.Errorf("Rows(%v) = %d %d", is, n, e)
		}
		for at := -2; at <= rows+1; at++ {
			l, e := table.Row(is, at)
			if at < 0 || at >= rows {
				if len(l) != 0 || e != api.ErrRange {
					t.Errorf("Row(%v, %d) = %v %d", is, at, l, e)
				}
				continue
			}
			if len(l) != len(is.Cols) || e != api.OK {
				t.Fatalf("Row(%v, %d) = %v %d", is, at, l, e)
			}
			for i, c := range l {
				if c != is.Data[i][at] {
					t.Errorf("Row(%v, %d) = %v", is, at, l)
				}
			}
		}
		for _, at := range []int{math.MinInt, math.MaxInt} {
			if l, e := table.Row(is, at); len(l) != 0 || e != api.ErrRange {
				t.Errorf("Row(%v, %d) = %v %d", is, at, l, e)
			}
		}
	}
}

func TestS2Add(t *testing.T) {
	for _, is := range tables() {
		rows, _ := table.Rows(is)
		for _, x := range of(gone, in(0), in(math.MaxUint64), tx(""), tx(wide)) {
			for _, c := range cols(num("new"), txt("new"), num("abcdefghijkl")) {
				g := did(table.Add(is, c, x))
				switch {
				case len(is.Cols) == api.MaxCols:
					not(t, "Add", g, api.ErrMany)
				case x.Kind != api.Null && x.Kind != c.Kind:
					not(t, "Add", g, api.ErrKind)
				default:
					l := make([]api.Cell, rows)
					for i := range l {
						l[i] = x
					}
					more := copied(is)
					more.Cols, more.Data = append(more.Cols, c), append(more.Data, l)
					want(t, "Add", g, more, api.OK)
				}
			}
		}
	}
}

func TestS2AddErrors(t *testing.T) {
	five, six := most(2), most(2)
	five.Cols, five.Data = five.Cols[:5], five.Data[:5]
	for _, name := range badNames() {
		not(t, "Add", did(table.Add(birds(), api.Column{Name: name}, gone)), api.ErrForm)
		not(t, "Add", did(table.Add(six, num(name), in(1))), api.ErrForm)
	}
	for _, c := range []struct {
		t api.Table
		c api.Column
		x api.Cell
		e api.Errno
	}{
		{six, api.Column{Name: "c", Kind: 3}, gone, api.ErrTwice},
		{birds(), num("id"), in(1), api.ErrTwice},
		{birds(), txt("seen"), tx(wide + "w"), api.ErrTwice},
		{six, api.Column{Name: "new"}, gone, api.ErrKind},
		{birds(), api.Column{Name: "new", Kind: 3}, gone, api.ErrKind},
		{api.Table{}, api.Column{Name: "new", Kind: -1}, gone, api.ErrKind},
		{api.Table{}, api.Column{Name: "new", Kind: 258}, gone, api.ErrKind},
		{six, num("new"), tx(""), api.ErrMany},
		{six, txt("new"), api.Cell{N: 1}, api.ErrMany},
		{six, txt("new"), tx(""), api.ErrMany},
		{five, txt("new"), in(1), api.ErrKind},
		{five, num("new"), tx(""), api.ErrKind},
		{api.Table{}, num("new"), api.Cell{Kind: 3}, api.ErrKind},
		{five, num("new"), api.Cell{N: 1}, api.ErrForm},
		{five, num("new"), api.Cell{S: "a"}, api.ErrForm},
		{api.Table{}, num("new"), api.Cell{Kind: api.Number, S: "a"}, api.ErrForm},
		{five, txt("new"), api.Cell{Kind: api.Text, N: 1}, api.ErrForm},
		{five, txt("new"), tx(wide + "w"), api.ErrMany},
		{api.Table{}, txt("new"), tx(wide + "w"), api.ErrMany},
	} {
		not(t, "Add of "+c.c.Name, did(table.Add(c.t, c.c, c.x)), c.e)
	}
}

func TestS2Drop(t *testing.T) {
	for _, is := range tables() {
		for at, c := range is.Cols {
			less := copied(is)
			less.Cols = slices.Delete(less.Cols, at, at+1)
			less.Data = slices.Delete(less.Data, at, at+1)
			want(t, "Drop "+c.Name, did(table.Drop(is, c.Name)), less, api.OK)
		}
		for _, name := range []string{"", "zz", "i", "ids", "ID", "name ", wide} {
			not(t, "Drop "+name, did(table.Drop(is, name)), api.ErrNone)
		}
	}
}

func TestS2Rename(t *testing.T) {
	for _, is := range tables() {
		for at, c := range is.Cols {
			for _, name := range append(goodNames(), c.Name) {
				g := did(table.Rename(is, c.Name, name))
				other := slices.IndexFunc(is.Cols, func(c api.Column) bool { return c.Name == name })
				if other >= 0 && other != at {
					not(t, "Rename "+c.Name+" "+name, g, api.ErrTwice)
					continue
				}
				now := copied(is)
				now.Cols[at].Name = name
				want(t, "Rename "+c.Name+" "+name, g, now, api.OK)
			}
			for _, name := range badNames() {
				not(t, "Rename "+c.Name+" "+name, did(table.Rename(is, c.Name, name)), api.ErrForm)
			}
		}
		for _, name := range []string{"", "zz", "id", "a", "new"} {
			for _, old := range []string{"", "zz", "ids", "ID", wide} {
				not(t, "Rename "+old+" "+name, did(table.Rename(is, old, name)), api.ErrNone)
			}
		}
	}
}

// conditions: some that may be asked of some tables.
func conditions() [][]api.Cond {
	more := api.Cond{Op: api.More, C: in(1)}
	rook := api.Cond{Op: api.Is, Col: 1, C: tx("rook")}
	null := api.Cond{Op: api.Gone, Col: 1}
	not := api.Cond{Op: api.Not}
	return [][]api.Cond{
		{more}, {more, not}, {rook}, {rook, not}, {null}, {null, not}, {{Op: api.Gone}},
		{more, rook, {Op: api.And}}, {more, rook, {Op: api.Or}}, {more, null, {Op: api.Or}, not},
		{{Op: api.Less, Col: 2, C: in(8)}}, {{Op: api.Less, Col: 1, C: tx("s")}}, {{Op: api.Is, C: tx("")}},
		{{Op: api.Gone, Col: 5}}, {{Op: api.Gone, Col: 6}}, {{Op: api.Gone, Col: -1}},
		nil, {not}, {more, more}, {{Op: 0}}, {{Op: 8}}, {{Op: api.Is}}, make([]api.Cond, 17),
		slices.Repeat([]api.Cond{{Op: api.Gone}}, 17), slices.Concat([]api.Cond{null}, slices.Repeat([]api.Cond{not}, 15)),
		slices.Concat([]api.Cond{null}, slices.Repeat([]api.Cond{not}, 16)),
	}
}

// askedOf: what a condition is of each row of a table.
func askedOf(is api.Table, p []api.Cond) ([]int, api.Errno) {
	var kinds []int
	for _, c := range is.Cols {
		kinds = append(kinds, c.Kind)
	}
	e := pred.Check(p, kinds)
	rows, _ := table.Rows(is)
	var l []int
	for at := range rows {
		row, _ := table.Row(is, at)
		truth, _ := pred.Ask(p, kinds, row)
		l = append(l, truth)
	}
	return l, e
}

func TestS3RedactAndKeep(t *testing.T) {
	asked := 0
	for _, is := range tables() {
		for _, p := range conditions() {
			truths, e := askedOf(is, p)
			kept := api.Table{Cols: is.Cols, Data: make([][]api.Cell, len(is.Data))}
			for i, l := range is.Data {
				for at, c := range l {
					if truths[at] == 2 {
						kept.Data[i] = append(kept.Data[i], c)
					}
				}
			}
			if e != api.OK {
				kept = api.Table{}
			}
			want(t, "Keep", did(table.Keep(is, p)), kept, e)
			for i, c := range is.Cols {
				now := copied(is)
				for at := range now.Data[i] {
					if truths[at] == 2 {
						now.Data[i][at] = gone
					}
				}
				if e != api.OK {
					now = api.Table{}
				} else {
					asked++
				}
				want(t, "Redact "+c.Name, did(table.Redact(is, c.Name, p)), now, e)
			}
			for _, name := range []string{"", "zz", "ID", "ids"} {
				not(t, "Redact "+name, did(table.Redact(is, name, p)), api.ErrNone)
			}
		}
	}
	if asked < 100 {
		t.Errorf("%d conditions were asked", asked)
	}
}

func TestS3Spelt(t *testing.T) {
	more := []api.Cond{{Op: api.More, C: in(1)}}
	want(t, "Keep", did(table.Keep(birds(), more)), tab(birds().Cols,
		of(in(2), in(9), in(5)), of(gone, tx("wren"), tx("")), of(in(7), gone, in(math.MaxUint64))), api.OK)
	want(t, "Redact id", did(table.Redact(birds(), "id", more)), tab(birds().Cols,
		of(in(1), gone, gone, gone, gone), birds().Data[1], birds().Data[2]), api.OK)
	want(t, "Redact name", did(table.Redact(birds(), "name", more)), tab(birds().Cols,
		birds().Data[0], of(tx("rook"), gone, gone, tx("rook"), gone), birds().Data[2]), api.OK)
	// Unknown is not True, and neither is what is not Unknown.
	isRook := []api.Cond{{Op: api.Is, Col: 1, C: tx("rook")}, {Op: api.Not}}
	want(t, "Keep", did(table.Keep(birds(), isRook)), tab(birds().Cols,
		of(in(9), in(5)), of(tx("wren"), tx("")), of(gone, in(math.MaxUint64))), api.OK)
	for _, c := range []struct {
		p []api.Cond
		e api.Errno
	}{
		{nil, api.ErrForm},
		{make([]api.Cond, 17), api.ErrMany},
		{[]api.Cond{{Op: api.Is, Col: 3, C: in(1)}}, api.ErrRange},
		{[]api.Cond{{Op: api.Is, Col: 1, C: in(1)}}, api.ErrKind},
		{[]api.Cond{{Op: 9}}, api.ErrKind},
	} {
		not(t, "Keep", did(table.Keep(birds(), c.p)), c.e)
		not(t, "Redact", did(table.Redact(birds(), "seen", c.p)), c.e)
		not(t, "Redact", did(table.Redact(birds(), "see", c.p)), api.ErrNone)
	}
	none := tab(cols(num("a")), nil)
	not(t, "Keep of no rows", did(table.Keep(none, isRook)), api.ErrRange)
	not(t, "Redact of no rows", did(table.Redact(none, "a", nil)), api.ErrForm)
	not(t, "Keep of no columns", did(table.Keep(api.Table{}, more)), api.ErrRange)
}

func TestS4Project(t *testing.T) {
	b := birds()
	for _, c := range []struct {
		names []string
		at    []int
		e     api.Errno
	}{
		{nil, nil, api.OK},
		{[]string{"id"}, []int{0}, api.OK},
		{[]string{"seen"}, []int{2}, api.OK},
		{[]string{"seen", "id"}, []int{2, 0}, api.OK},
		{[]string{"name", "seen", "id"}, []int{1, 2, 0}, api.OK},
		{[]string{"id", "name", "seen"}, []int{0, 1, 2}, api.OK},
		{[]string{"id", "id"}, nil, api.ErrTwice},
		{[]string{"seen", "id", "seen", "zz"}, nil, api.ErrTwice},
		{[]string{"zz"}, nil, api.ErrNone},
		{[]string{""}, nil, api.ErrNone},
		{[]string{"zz", "zz"}, nil, api.ErrNone},
		{[]string{"id", "zz", "id"}, nil, api.ErrNone},
		{[]string{"id", "ID"}, nil, api.ErrNone},
		{[]string{"id", "name", "seen", "id"}, nil, api.ErrTwice},
	} {
		var is api.Table
		for _, at := range c.at {
			is.Cols, is.Data = append(is.Cols, b.Cols[at]), append(is.Data, b.Data[at])
		}
		want(t, "Project "+strings.Join(c.names, " "), did(table.Project(birds(), c.names)), is, c.e)
	}
	want(t, "Project", did(table.Project(api.Table{}, nil)), api.Table{}, api.OK)
	not(t, "Project", did(table.Project(api.Table{}, []string{"a"})), api.ErrNone)
}

func TestS4Slice(t *testing.T) {
	for _, is := range tables() {
		rows, _ := table.Rows(is)
		places := []int{math.MinInt, -1, 0, 1, 2, 3, 4, 5, 63, 64, 65, 127, 128, 129, math.MaxInt - 1, math.MaxInt}
		for _, from := range places {
			for _, many := range places {
				g := did(table.Slice(is, from, many))
				if from < 0 || many < 0 {
					not(t, "Slice", g, api.ErrRange)
					continue
				}
				part := api.Table{Cols: is.Cols, Data: make([][]api.Cell, len(is.Data))}
				for at := range rows {
					for i := range part.Data {
						if at >= from && at-from < many {
							part.Data[i] = append(part.Data[i], is.Data[i][at])
						}
					}
				}
				want(t, "Slice", g, part, api.OK)
			}
		}
	}
}

func TestS4Append(t *testing.T) {
	for _, a := range tables() {
		for _, b := range tables() {
			g := did(table.Append(a, b))
			n, _ := table.Rows(a)
			m, _ := table.Rows(b)
			switch {
			case !slices.Equal(a.Cols, b.Cols):
				not(t, "Append", g, api.ErrKind)
			case n+m > api.MaxRows:
				not(t, "Append", g, api.ErrMany)
			default:
				both := copied(a)
				for i, l := range b.Data {
					both.Data[i] = append(both.Data[i], l...)
				}
				want(t, "Append", g, both, api.OK)
			}
		}
	}
}

func TestS4AppendErrors(t *testing.T) {
	l := of(in(1))
	ab := tab(cols(num("a"), num("b")), l, l)
	for _, other := range []api.Table{
		{}, tab(cols(num("a")), l), tab(cols(num("b"), num("a")), l, l), tab(cols(num("a"), txt("b")), l, of(gone)),
		tab(cols(num("a"), num("c")), l, l), tab(cols(num("a"), num("b"), num("c")), l, l, l),
	} {
		not(t, "Append", did(table.Append(ab, other)), api.ErrKind)
		not(t, "Append", did(table.Append(other, ab)), api.ErrKind)
	}
	full := tab(cols(num("a")), sample(api.Number, api.MaxRows))
	not(t, "Append", did(table.Append(full, tab(cols(txt("a")), of(gone)))), api.ErrKind)
	not(t, "Append", did(table.Append(full, tab(cols(num("a")), l))), api.ErrMany)
	not(t, "Append", did(table.Append(tab(cols(num("a")), l), full)), api.ErrMany)
	want(t, "Append", did(table.Append(full, tab(cols(num("a")), nil))), full, api.OK)
	want(t, "Append", did(table.Append(api.Table{}, api.Table{})), api.Table{}, api.OK)
}

// Whatever a table has, what is wrong with it is told, and what comes of one is one.
func TestP1Strange(t *testing.T) {
	kinds := []int{math.MinInt, -1, 0, 1, 2, 3, 256, 257, math.MaxInt}
	cells := of(gone, in(math.MaxUint64), tx("\x00\xff"), api.Cell{N: 1}, api.Cell{S: "a"}, api.Cell{Kind: -1}, api.Cell{Kind: math.MaxInt, N: 1, S: wide + "w"})
	for _, kind := range kinds {
		for _, c := range cells {
			is := tab(cols(api.Column{Name: "a", Kind: kind}), of(c))
			e := nulls.Check(kind, of(c))
			if g := table.Check(is); g != e {
				t.Errorf("Check(%v) = %d, must be %d", is, g, e)
			}
			if g := did(table.Add(birds(), is.Cols[0], c)); g.e != e || (g.e == api.OK) != (len(g.t.Cols) == 4) {
				t.Errorf("Add(%v, %v) = %v %d, must have %d", is.Cols[0], c, g.t, g.e, e)
			}
		}
	}
	names := []string{"", "id", "name", "seen", "a", "b", "c", "A", "\x00", wide}
	for _, is := range tables() {
		for _, a := range names {
			for _, b := range names {
				for i, g := range []got{
					did(table.Drop(is, a)), did(table.Rename(is, a, b)), did(table.Project(is, []string{a, b})),
					did(table.Redact(is, a, []api.Cond{{Op: api.Gone}})), did(table.Add(is, txt(a), tx(b))),
				} {
					if table.Check(g.t) != api.OK || g.e != api.OK && !same(g.t, api.Table{}) {
						t.Errorf("%d of %q, %q = %v %d", i, a, b, g.t, g.e)
					}
				}
			}
		}
	}
}

// each: every call that answers a table, of one.
func each(is, other api.Table, p []api.Cond, names []string) []got {
	return []got{
		did(table.Add(is, txt("new"), tx("x"))), did(table.Drop(is, "name")), did(table.Rename(is, "id", "number")),
		did(table.Redact(is, "name", p)), did(table.Keep(is, p)), did(table.Project(is, names)),
		did(table.Slice(is, 1, 3)), did(table.Slice(is, 0, 5)), did(table.Append(is, other)),
		did(table.Add(is, num("id"), in(1))), did(table.Rename(is, "id", "name")),
	}
}

func TestP2OnlyRead(t *testing.T) {
	full := birds()
	for i := range full.Data {
		full.Data[i] = append(full.Data[i], in(99))
	}
	full.Cols, full.Data = append(full.Cols, num("spare")), append(full.Data, of(in(98)))
	is := api.Table{Cols: full.Cols[:3]}
	for _, l := range full.Data[:3] {
		is.Data = append(is.Data, l[:5])
	}
	p, names := []api.Cond{{Op: api.More, C: in(1)}}, []string{"seen", "id"}
	answers := each(is, is, p, names)
	row, _ := table.Row(is, 0)
	table.Check(is)
	table.Rows(is)
	if !same(is, birds()) || full.Cols[3] != num("spare") || full.Data[0][5] != in(99) || full.Data[1][5] != in(99) || full.Data[2][5] != in(99) {
		t.Error("a table, or the room behind its lists, was changed")
	}
	if p[0] != (api.Cond{Op: api.More, C: in(1)}) || names[0] != "seen" || names[1] != "id" {
		t.Error("a condition, or names, were changed")
	}
	clear(full.Cols)
	for _, l := range full.Data {
		clear(l)
	}
	clear(full.Data)
	clear(p)
	clear(names)
	for i, g := range each(birds(), birds(), []api.Cond{{Op: api.More, C: in(1)}}, []string{"seen", "id"}) {
		want(t, "call "+string([]byte{'0' + byte(i)}), answers[i], g.t, g.e)
	}
	if len(row) != 3 || row[0] != in(1) || row[1] != tx("rook") || row[2] != in(7) {
		t.Errorf("a row was kept: %v", row)
	}
}

// spoil all that a table has, the room behind its lists too, but for one list.
func spoil(is api.Table, but int) {
	for i, l := range is.Data {
		if i == but {
			continue
		}
		l = l[:cap(l)]
		for at := range l {
			l[at] = tx("spoilt")
		}
	}
}

func TestP2NewMemory(t *testing.T) {
	p, names := []api.Cond{{Op: api.Gone}, {Op: api.Not}}, []string{"seen", "id"}
	wanted := each(birds(), birds(), p, names)
	for i := range wanted {
		for but := range 4 {
			is, other := birds(), birds()
			g := each(is, other, p, names)[i]
			spoil(g.t, but)
			for at, l := range g.t.Data {
				if at == but && !slices.Equal(l, wanted[i].t.Data[at]) {
					t.Errorf("two lists of answer %d share memory", i)
				}
			}
			for at := range g.t.Cols {
				g.t.Cols[at] = txt("spoilt")
			}
			if !same(is, birds()) || !same(other, birds()) {
				t.Errorf("answer %d shares memory with what was handed in", i)
			}
		}
	}
	is := birds()
	row, _ := table.Row(is, 0)
	clear(row)
	if !same(is, birds()) {
		t.Error("a row shares memory with its table")
	}
}

func TestP3SameAgain(t *testing.T) {
	p, names := []api.Cond{{Op: api.Less, C: in(9)}}, []string{"name", "id"}
	wanted := each(birds(), birds(), p, names)
	is := birds()
	var all sync.WaitGroup
	for range 8 {
		all.Go(func() {
			for range 20 {
				each(most(9), most(3), p, names)
				table.Keep(is, nil)
				for i, g := range each(is, is, p, names) {
					want(t, "again", g, wanted[i].t, wanted[i].e)
				}
			}
		})
	}
	all.Wait()
}

func TestP4LongOnes(t *testing.T) {
	long := strings.Repeat("a", 1<<24)
	for _, c := range []wrong{
		{tab(make([]api.Column, 1<<20)), api.ErrMany},
		{tab(nil, make([][]api.Cell, 1<<20)...), api.ErrForm},
		{tab(cols(num("a")), make([]api.Cell, 1<<20)), api.ErrMany},
		{tab(cols(num(long)), of()), api.ErrForm},
		{tab(cols(txt("a")), of(tx(long))), api.ErrMany},
	} {
		if e := table.Check(c.t); e != c.e {
			t.Errorf("Check of a long one = %d, must be %d", e, c.e)
		}
	}
	not(t, "Drop", did(table.Drop(birds(), long)), api.ErrNone)
	not(t, "Rename", did(table.Rename(birds(), "id", long)), api.ErrForm)
	not(t, "Add", did(table.Add(birds(), num(long), gone)), api.ErrForm)
	not(t, "Add", did(table.Add(birds(), txt("new"), tx(long))), api.ErrMany)
	not(t, "Keep", did(table.Keep(birds(), make([]api.Cond, 1<<20))), api.ErrMany)
	not(t, "Redact", did(table.Redact(birds(), long, nil)), api.ErrNone)
	not(t, "Project", did(table.Project(birds(), make([]string, 1<<20))), api.ErrNone)
	not(t, "Project", did(table.Project(birds(), slices.Repeat([]string{"id"}, 1<<20))), api.ErrTwice)
}
