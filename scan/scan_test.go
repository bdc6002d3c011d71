package scan_test

import (
	"encoding/binary"
	"hash/adler32"
	"math"
	"slices"
	"strings"
	"sync"
	"testing"

	"hypostyle/api"
	"hypostyle/bloom"
	"hypostyle/chunk"
	"hypostyle/file"
	"hypostyle/nulls"
	"hypostyle/pred"
	"hypostyle/scan"
	"hypostyle/table"
	"hypostyle/vary"
)

// of: a list of cells.
func of(l ...api.Cell) []api.Cell { return l }

// all: a condition, node by node.
func all(l ...api.Cond) []api.Cond { return l }

func in(n uint64) api.Cell { return api.Cell{Kind: api.Number, N: n} }
func tx(s string) api.Cell { return api.Cell{Kind: api.Text, S: s} }

// gone: a Null.
var gone api.Cell

// wide: a text of the most bytes.
var wide = strings.Repeat("w", api.MaxText)

func is(col int, c api.Cell) api.Cond   { return api.Cond{Op: api.Is, Col: col, C: c} }
func less(col int, c api.Cell) api.Cond { return api.Cond{Op: api.Less, Col: col, C: c} }
func more(col int, c api.Cell) api.Cond { return api.Cond{Op: api.More, Col: col, C: c} }
func null(col int) api.Cond             { return api.Cond{Op: api.Gone, Col: col} }

var and, or, not = api.Cond{Op: api.And}, api.Cond{Op: api.Or}, api.Cond{Op: api.Not}

func num(name string) api.Column { return api.Column{Name: name, Kind: api.Number} }
func txt(name string) api.Column { return api.Column{Name: name, Kind: api.Text} }

// cols: a list of columns.
func cols(l ...api.Column) []api.Column { return l }

// tab: a table of columns and their cells.
func tab(c []api.Column, data ...[]api.Cell) api.Table { return api.Table{Cols: c, Data: data} }

// birds: a table of three columns and five rows, each time another one. In groups of two
// rows the ids of the first one are 1 and 2, of the second one 9 and a Null, of the third
// one 5.
func birds() api.Table {
	return tab(cols(num("id"), txt("name"), num("seen")),
		of(in(1), in(2), in(9), gone, in(5)),
		of(tx("rook"), gone, tx("wren"), tx("rook"), tx("")),
		of(in(7), in(7), gone, in(0), in(math.MaxUint64)))
}

// draw: numbers that look as if they were drawn; the same each time.
type draw uint64

func (d *draw) n(n int) int {
	*d = *d*6364136223846793005 + 1442695040888963407
	return int(uint64(*d) >> 33 % uint64(n))
}

// cell of a kind, or a Null. They rise, so that groups are known to be of other ones.
func (d *draw) cell(kind, at int) api.Cell {
	switch {
	case d.n(5) == 0:
		return gone
	case kind == api.Number:
		return in(uint64(at/3*10 + d.n(25)))
	}
	return tx(string([]byte{'a' + byte(at/6), 'a' + byte(d.n(4))}))
}

// table of so many columns and rows.
func (d *draw) table(columns, rows int) api.Table {
	var t api.Table
	for i := range columns {
		c := api.Column{Name: string([]byte{'a' + byte(i)}), Kind: 1 + d.n(2)}
		var l []api.Cell
		for at := range rows {
			l = append(l, d.cell(c.Kind, at))
		}
		t.Cols, t.Data = append(t.Cols, c), append(t.Data, l)
	}
	return t
}

// leaf of a column of a table.
func (d *draw) leaf(t api.Table) api.Cond {
	col := d.n(len(t.Cols))
	for {
		c := d.cell(t.Cols[col].Kind, d.n(128))
		if rows := rowsOf(t); rows > 0 && d.n(2) == 0 {
			c = t.Data[col][d.n(rows)]
		}
		if c != gone {
			return api.Cond{Op: api.Is + d.n(3), Col: col, C: c}
		}
		if d.n(3) == 0 {
			return null(col)
		}
	}
}

// condition that may be asked of a table that has columns.
func (d *draw) condition(t api.Table) []api.Cond {
	p := all(d.leaf(t))
	for range d.n(4) {
		switch d.n(3) {
		case 0:
			p = append(p, not)
		case 1:
			p = append(p, d.leaf(t), and)
		default:
			p = append(p, d.leaf(t), not, or)
		}
	}
	return p
}

// names of some columns, in whatever order.
func (d *draw) names(t api.Table) []string {
	var l []string
	for range d.n(len(t.Cols) + 2) {
		name := t.Cols[d.n(len(t.Cols))].Name
		if !slices.Contains(l, name) {
			l = append(l, name)
		}
	}
	return l
}

// rowsOf: how many a table has.
func rowsOf(t api.Table) int {
	n, _ := table.Rows(t)
	return n
}

// number: the bytes of one.
func number(n int) string { return vary.Write(uint64(n)) }

// four: a number as four bytes.
func four(n int) string { return string(binary.BigEndian.AppendUint32(nil, uint32(n))) }

// sealed: a body with its length and its sum, as the document tells it.
func sealed(body string) string {
	return number(len(body)) + body + four(int(adler32.Checksum([]byte(body))))
}

// parts of a file: its columns, and of each group how many rows it has, and its chunks.
type parts struct {
	cols   []api.Column
	rows   []int
	chunks [][]string
}

// taken: a table's parts, each time others.
func taken(t api.Table, per, group int) parts {
	p := parts{cols: t.Cols}
	for from := 0; from < rowsOf(t); from += group {
		end := min(from+group, rowsOf(t))
		var l []string
		for i, c := range t.Cols {
			s, _ := chunk.Write(c.Kind, t.Data[i][from:end], per)
			l = append(l, s)
		}
		p.rows, p.chunks = append(p.rows, end-from), append(p.chunks, l)
	}
	return p
}

// file of these parts, as the document tells it.
func (p parts) file() string {
	chunks := ""
	foot := number(len(p.cols))
	for _, c := range p.cols {
		foot += string([]byte{byte(c.Kind)}) + number(len(c.Name)) + c.Name
	}
	foot += number(len(p.rows))
	for i, rows := range p.rows {
		foot += number(rows)
		for _, s := range p.chunks[i] {
			foot += number(len(s))
			chunks += s
		}
	}
	foot = sealed(foot)
	return "COL1" + chunks + foot + four(len(foot)) + "COL1"
}

// changed: a text with a byte changed, as many from its end on.
func changed(s string, fromEnd int) string {
	b := []byte(s)
	b[len(b)-fromEnd] ^= 1
	return string(b)
}

// hurt a chunk's last page: its head is as it was.
func (p parts) hurt(group, column int) {
	p.chunks[group][column] = changed(p.chunks[group][column], 1)
}

// behead: spoil a chunk's head.
func (p parts) behead(group, column int) {
	_, _, size, _ := chunk.Head(p.chunks[group][column])
	p.chunks[group][column] = changed(p.chunks[group][column], len(p.chunks[group][column])-size+1)
}

// known: what Known answers.
type known struct {
	stats   []api.Stats
	filters [][4]uint64
	pages   int
}

// knownOf some rows of a table, as the document tells it.
func knownOf(t api.Table, per, from, end int) known {
	var k known
	for _, l := range t.Data {
		s := api.Stats{Rows: end - from}
		var there []api.Cell
		for _, c := range l[from:end] {
			if c == gone {
				s.Nulls++
			} else {
				there = append(there, c)
			}
		}
		for i, c := range there {
			if i == 0 || nulls.Less(c, s.Least) {
				s.Least = c
			}
			if i == 0 || nulls.Less(s.Most, c) {
				s.Most = c
			}
		}
		k.stats, k.filters = append(k.stats, s), append(k.filters, bloom.Of(l[from:end]))
		k.pages += (end - from + per - 1) / per
	}
	return k
}

func wantKnown(t *testing.T, s string, group int, k known, e api.Errno) {
	t.Helper()
	gs, gf, gp, ge := scan.Known(s, group)
	if !slices.Equal(gs, k.stats) || !slices.Equal(gf, k.filters) || gp != k.pages || ge != e {
		t.Errorf("Known(%.80q, %d) = %v %x %d %d, must be %v %x %d %d", s, group, gs, gf, gp, ge, k.stats, k.filters, k.pages, e)
	}
}

// same tables? Lists without elements are the same, nil or not.
func same(a, b api.Table) bool {
	return slices.Equal(a.Cols, b.Cols) && slices.EqualFunc(a.Data, b.Data, slices.Equal[[]api.Cell])
}

func wantScan(t *testing.T, s string, p []api.Cond, names []string, is api.Table, pages int, e api.Errno) {
	t.Helper()
	if g, gp, ge := scan.Scan(s, p, names); !same(g, is) || gp != pages || ge != e {
		t.Errorf("Scan(%.80q, %v, %q) = %v %d %d, must be %v %d %d", s, p, names, g, gp, ge, is, pages, e)
	}
}

// notScan: an error of Scan.
func notScan(t *testing.T, s string, p []api.Cond, names []string, e api.Errno) {
	t.Helper()
	wantScan(t, s, p, names, api.Table{}, 0, e)
}

// asked: what the table itself tells.
func asked(t api.Table, p []api.Cond, names []string) api.Table {
	kept, _ := table.Keep(t, p)
	out, _ := table.Project(kept, names)
	return out
}

// fits: may so many rows be written so?
func fits(rows, per, group int) bool {
	first := min(rows, group)
	return (rows+group-1)/group <= api.MaxGroups && (first+per-1)/per <= api.MaxPages
}

// eachFile hands on many tables, and how they are written.
func eachFile(hand func(d *draw, t api.Table, per, group int, s string)) {
	var d draw
	for _, rows := range []int{0, 1, 2, 3, 7, 16, 17, 40, 64, 65, 127, 128} {
		for _, columns := range []int{1, 2, 3, 6} {
			for _, per := range []int{1, 2, 3, 8, 64} {
				for _, group := range []int{1, 2, 5, 16, 17, 128} {
					if t := d.table(columns, rows); fits(rows, per, group) {
						hand(&d, t, per, group, taken(t, per, group).file())
					}
				}
			}
		}
	}
	hand(&d, birds(), 2, 2, taken(birds(), 2, 2).file())
}

// example of the document: two groups of two rows, in pages of two cells.
func example() api.Table {
	return tab(cols(num("id"), txt("name")), of(in(1), in(2), in(9)), of(tx("rook"), gone, tx("wren")))
}

func TestU1Example(t *testing.T) {
	s, _ := file.Write(example(), 2, 2)
	first := known{
		stats:   []api.Stats{{Rows: 2, Least: in(1), Most: in(2)}, {Rows: 2, Nulls: 1, Least: tx("rook"), Most: tx("rook")}},
		filters: [][4]uint64{bloom.Of(of(in(1), in(2))), bloom.Of(of(tx("rook"), gone))},
		pages:   2,
	}
	second := known{
		stats:   []api.Stats{{Rows: 1, Least: in(9), Most: in(9)}, {Rows: 1, Least: tx("wren"), Most: tx("wren")}},
		filters: [][4]uint64{bloom.Of(of(in(9))), bloom.Of(of(tx("wren")))},
		pages:   2,
	}
	wantKnown(t, s, 0, first, api.OK)
	wantKnown(t, s, 1, second, api.OK)
	wantKnown(t, s, 2, known{}, api.ErrRange)
}

func TestU1Known(t *testing.T) {
	files := 0
	eachFile(func(_ *draw, is api.Table, per, group int, s string) {
		files++
		groups := 0
		for from := 0; from < rowsOf(is); from += group {
			wantKnown(t, s, groups, knownOf(is, per, from, min(from+group, rowsOf(is))), api.OK)
			groups++
		}
		for _, at := range []int{groups, groups + 1, api.MaxGroups, math.MaxInt, -1, math.MinInt} {
			if at < 0 || at >= groups {
				wantKnown(t, s, at, known{}, api.ErrRange)
			}
		}
	})
	if files < 300 {
		t.Errorf("%d files were read", files)
	}
}

func TestU1NoGroups(t *testing.T) {
	for _, is := range []api.Table{{}, tab(cols(num("a")), nil), tab(cols(num("a"), txt("b")), nil, nil)} {
		s := taken(is, 1, 1).file()
		for _, at := range []int{-1, 0, 1} {
			wantKnown(t, s, at, known{}, api.ErrRange)
		}
	}
}

// A page may have no cells, pages may have different ones, and of Nulls alone no ends are
// known.
func TestU1Pages(t *testing.T) {
	zone := func(rows, nulls int, ends string, filter string) string {
		return number(0) + number(rows) + number(nulls) + ends + filter
	}
	none, many := strings.Repeat("\x00", 32), strings.Repeat("\x00", 31)+"\x05"
	head := sealed("\x01\x04" +
		zone(0, 0, "\x00\x00", many) +
		zone(2, 2, "\x00\x00", "\x80"+none[1:]) +
		zone(3, 1, "\x01\x07\x01\x09", none) +
		zone(1, 0, "\x01\x03\x01\x03", none[:24]+"\x00\x00\x00\x00\x00\x00\x00\x02"))
	p := parts{cols: cols(num("a")), rows: []int{6}, chunks: [][]string{{head}}}
	k := known{
		stats:   []api.Stats{{Rows: 6, Nulls: 3, Least: in(3), Most: in(9)}},
		filters: [][4]uint64{{1 << 63, 0, 0, 7}},
		pages:   4,
	}
	wantKnown(t, p.file(), 0, k, api.OK)
	p.rows[0] = 5
	wantKnown(t, p.file(), 0, known{}, api.ErrState)
	p.rows[0] = 7
	wantKnown(t, p.file(), 0, known{}, api.ErrState)
}

// wrongFiles: texts that are no files, and what Foot tells of them.
func wrongFiles() map[string]api.Errno {
	s := taken(birds(), 2, 2).file()
	l := map[string]api.Errno{
		"": api.ErrForm, "COL1": api.ErrForm, "COL1COL1": api.ErrForm, s[1:]: api.ErrForm, s[:len(s)-1]: api.ErrForm,
		"col1" + s[4:]: api.ErrForm, s + "x": api.ErrForm, changed(s, 9): api.ErrSum, changed(s, 12): api.ErrSum,
		"COL1\x00\x00\x00\x00COL1": api.ErrSum, "COL1x" + s[4:]: api.ErrForm,
	}
	for text, e := range l {
		if _, _, is := file.Foot(text); is != e {
			panic(text)
		}
	}
	return l
}

func TestU1Foot(t *testing.T) {
	for s, e := range wrongFiles() {
		for _, at := range []int{-1, 0, 1, 3, math.MaxInt} {
			wantKnown(t, s, at, known{}, e)
		}
	}
}

// wrong: what is done to parts, and what is told of it.
type wrong struct {
	spoil func(p parts)
	e     api.Errno
}

// put another chunk of name into the second group of birds.
func put(s string) func(p parts) {
	return func(p parts) { p.chunks[1][1] = s }
}

// wrongHeads: what may be wrong with the head of the chunk of name in the second group of
// birds.
func wrongHeads() map[string]wrong {
	write := func(kind int, l ...api.Cell) string {
		s, _ := chunk.Write(kind, l, 2)
		return s
	}
	zone := "\x00\x01\x01\x00\x00" + strings.Repeat("\x00", 32)
	return map[string]wrong{
		"beheaded":       {func(p parts) { p.behead(1, 1) }, api.ErrSum},
		"empty":          {put(sealed("")), api.ErrNone},
		"no such kind":   {put(sealed("\x03\x00")), api.ErrKind},
		"Nulls as kind":  {put(sealed("\x00\x00")), api.ErrKind},
		"many pages":     {put(sealed("\x02\x11")), api.ErrMany},
		"longer":         {put(sealed("\x02\x00\x00")), api.ErrForm},
		"a great number": {put(sealed("\x02\x01\xe1\x00\x00\x00")), api.ErrMany},
		"a long form":    {put(sealed("\x02\x80\x02")), api.ErrForm},
		"no filter":      {put(sealed("\x02\x01\x00\x02\x02\x00\x00")), api.ErrNone},
		"more Nulls":     {put(sealed("\x02\x01\x00\x02\x03" + zone[3:])), api.ErrRange},
		"no ends":        {put(sealed("\x02\x01\x00\x02\x01" + zone[3:])), api.ErrState},
		"a row more":     {put(write(api.Text, tx("a"), gone, tx("b"))), api.ErrState},
		"a row fewer":    {put(write(api.Text, tx("a"))), api.ErrState},
		"no rows":        {put(write(api.Text)), api.ErrState},
		"another kind":   {put(write(api.Number, in(1), in(2))), api.ErrState},
		"Nulls of one":   {put(write(api.Number, gone, gone)), api.ErrState},
		"more rows said": {func(p parts) { p.rows[1]++ }, api.ErrState},
		"one page left":  {put(sealed("\x02\x01" + zone)), api.ErrState},
		"many rows":      {put(sealed("\x02\x02" + strings.Repeat("\x00\x80\x80\x80\x80\x00\x00"+zone[5:], 2))), api.ErrMany},
	}
}

func TestU1Errors(t *testing.T) {
	for what, c := range wrongHeads() {
		p := taken(birds(), 2, 2)
		c.spoil(p)
		t.Run(what, func(t *testing.T) {
			wantKnown(t, p.file(), 1, known{}, c.e)
			wantKnown(t, p.file(), 0, knownOf(birds(), 2, 0, 2), api.OK)
			wantKnown(t, p.file(), 2, knownOf(birds(), 2, 4, 5), api.OK)
			wantKnown(t, p.file(), 3, known{}, api.ErrRange)
			// Of several columns the first one tells.
			p.behead(1, 2)
			wantKnown(t, p.file(), 1, known{}, c.e)
			p.chunks[1][0] = sealed("\x03")
			wantKnown(t, p.file(), 1, known{}, api.ErrKind)
		})
	}
}

// Known asks heads alone.
func TestU1PagesAreNotRead(t *testing.T) {
	p := taken(birds(), 1, 2)
	for column := range 3 {
		p.hurt(1, column)
	}
	wantKnown(t, p.file(), 1, knownOf(birds(), 1, 2, 4), api.OK)
	for column := range 3 {
		_, _, size, _ := chunk.Head(p.chunks[2][column])
		p.chunks[2][column] = p.chunks[2][column][:size]
	}
	wantKnown(t, p.file(), 2, knownOf(birds(), 1, 4, 5), api.OK)
}

func TestU2Example(t *testing.T) {
	s, _ := file.Write(example(), 2, 2)
	wantScan(t, s, all(more(0, in(5))), []string{"name"}, tab(cols(txt("name")), of(tx("wren"))), 2, api.OK)
}

func TestU2Scan(t *testing.T) {
	s := taken(birds(), 2, 2).file()
	name, id := []string{"name"}, []string{"id"}
	for _, c := range []struct {
		p     []api.Cond
		names []string
		data  [][]api.Cell
		pages int
	}{
		{all(more(0, in(5))), name, [][]api.Cell{of(tx("wren"))}, 3},
		{all(more(0, in(4))), name, [][]api.Cell{of(tx("wren"), tx(""))}, 6},
		{all(more(0, in(0))), id, [][]api.Cell{of(in(1), in(2), in(9), in(5))}, 9},
		{all(more(0, in(9))), id, [][]api.Cell{nil}, 0},
		{all(less(0, in(2))), name, [][]api.Cell{of(tx("rook"))}, 3},
		{all(less(0, in(1))), name, [][]api.Cell{nil}, 0},
		{all(null(0)), name, [][]api.Cell{of(tx("rook"))}, 3},
		{all(null(0)), []string{"seen", "id", "name"}, [][]api.Cell{of(in(0)), of(gone), of(tx("rook"))}, 3},
		{all(null(0), not), id, [][]api.Cell{of(in(1), in(2), in(9), in(5))}, 9},
		{all(null(1)), id, [][]api.Cell{of(in(2))}, 3},
		{all(is(1, tx("rook"))), id, [][]api.Cell{of(in(1), gone)}, 6},
		{all(is(1, tx("rook"))), nil, nil, 6},
		{all(is(1, tx("tit"))), id, [][]api.Cell{nil}, 0},
		{all(is(0, in(9)), is(1, tx("rook")), and), id, [][]api.Cell{nil}, 3},
		{all(is(0, in(9)), is(0, in(5)), or), []string{"seen"}, [][]api.Cell{of(gone, in(math.MaxUint64))}, 6},
		{all(is(2, in(7)), not), id, [][]api.Cell{of(gone, in(5))}, 6},
	} {
		out := api.Table{Data: c.data}
		for _, n := range c.names {
			at := slices.IndexFunc(birds().Cols, func(c api.Column) bool { return c.Name == n })
			out.Cols = append(out.Cols, birds().Cols[at])
		}
		wantScan(t, s, c.p, c.names, out, c.pages, api.OK)
	}
}

func TestU2Foot(t *testing.T) {
	for s, e := range wrongFiles() {
		notScan(t, s, all(more(0, in(5))), []string{"id"}, e)
		notScan(t, s, nil, []string{"zz", "zz"}, e)
		notScan(t, s, make([]api.Cond, 17), nil, e)
	}
}

// badConditions: such as may not be asked of birds, and what is told of them.
func badConditions() map[api.Errno][][]api.Cond {
	return map[api.Errno][][]api.Cond{
		api.ErrMany:  {make([]api.Cond, 17), slices.Repeat(all(null(0)), 17), all(is(1, tx(wide+"w")))},
		api.ErrForm:  {nil, {}, all(not), all(null(0), null(0)), all(null(0), and), all(api.Cond{Op: api.Gone, C: in(1)}), all(is(0, api.Cell{Kind: api.Number, S: "a"}))},
		api.ErrKind:  {all(api.Cond{}), all(api.Cond{Op: 8}), all(is(0, tx("a"))), all(less(1, in(1))), all(more(2, gone))},
		api.ErrRange: {all(null(3)), all(null(-1)), all(is(math.MaxInt, in(1)))},
	}
}

func TestU2Errors(t *testing.T) {
	good := taken(birds(), 2, 2)
	bad := taken(birds(), 2, 2)
	for group := range 3 {
		for column := range 3 {
			bad.behead(group, column)
		}
	}
	for _, s := range []string{good.file(), bad.file()} {
		for e, l := range badConditions() {
			for _, p := range l {
				for _, names := range [][]string{nil, {"id"}, {"zz"}, {"id", "id"}} {
					notScan(t, s, p, names, e)
				}
			}
		}
		p := all(more(0, in(5)))
		for _, names := range [][]string{{"zz"}, {""}, {"ID"}, {"zz", "zz"}, {"id", "zz", "id"}, {"name", "seen", "nam"}} {
			notScan(t, s, p, names, api.ErrNone)
		}
		for _, names := range [][]string{{"id", "id"}, {"id", "name", "id", "zz"}, {"name", "name", "zz"}} {
			notScan(t, s, p, names, api.ErrTwice)
		}
	}
	notScan(t, bad.file(), all(more(0, in(5))), nil, api.ErrSum)
	none := taken(tab(cols(num("a")), nil), 1, 1).file()
	wantScan(t, none, all(null(0)), []string{"a"}, tab(cols(num("a")), nil), 0, api.OK)
	notScan(t, none, all(null(1)), []string{"a"}, api.ErrRange)
	notScan(t, taken(api.Table{}, 1, 1).file(), all(null(0)), nil, api.ErrRange)
	notScan(t, taken(api.Table{}, 1, 1).file(), nil, nil, api.ErrForm)
}

// Heads of all groups are asked, whatever is read of them.
func TestU2Heads(t *testing.T) {
	for what, c := range wrongHeads() {
		p := taken(birds(), 2, 2)
		c.spoil(p)
		t.Run(what, func(t *testing.T) {
			for _, cond := range [][]api.Cond{all(is(0, in(1))), all(is(0, in(9))), all(is(0, in(5))), all(is(0, in(77)))} {
				notScan(t, p.file(), cond, []string{"seen"}, c.e)
			}
		})
	}
}

// wrongPages: what may be wrong with the chunk of name in the second group of birds, though
// its head is one.
func wrongPages() map[string]wrong {
	good := taken(birds(), 2, 2).chunks[1][1]
	_, _, size, _ := chunk.Head(good)
	head := func(long, least, most string) string {
		b := "\x02\x01" + long + "\x02\x00" + least + most
		for _, word := range bloom.Of(of(tx("wren"), tx("rook"))) {
			b += string(binary.BigEndian.AppendUint64(nil, word))
		}
		return sealed(b)
	}
	long := number(len(good) - size)
	if head(long, "\x02\x04rook", "\x02\x04wren") != good[:size] {
		panic("a head is not as the document tells it")
	}
	return map[string]wrong{
		"damaged":      {func(p parts) { p.hurt(1, 1) }, api.ErrSum},
		"a byte more":  {put(good + "\x00"), api.ErrState},
		"other ends":   {put(head(long, "\x02\x04room", "\x02\x04wren") + good[size:]), api.ErrState},
		"another page": {put(good[:size] + sealed("\x01\x02\x00\x00")), api.ErrState},
		"other bytes":  {put(head("\x00", "\x02\x04rook", "\x02\x04wren") + good[size:]), api.ErrState},
	}
}

func TestU2Pages(t *testing.T) {
	id := []string{"id"}
	for what, c := range wrongPages() {
		p := taken(birds(), 2, 2)
		c.spoil(p)
		t.Run(what, func(t *testing.T) {
			s := p.file()
			if _, e := file.Read(s); e != c.e {
				t.Errorf("Read of the file has %d, must have %d", e, c.e)
			}
			// Whatever columns are asked for, all chunks of the group are read.
			for _, names := range [][]string{nil, {"id"}, {"name"}, {"seen", "name"}} {
				notScan(t, s, all(is(0, in(9))), names, c.e)
				notScan(t, s, all(null(0)), names, c.e)
			}
			wantScan(t, s, all(is(0, in(1))), id, tab(cols(num("id")), of(in(1))), 3, api.OK)
			wantScan(t, s, all(is(0, in(5))), id, tab(cols(num("id")), of(in(5))), 3, api.OK)
			wantScan(t, s, all(less(0, in(9)), null(0), not, and), id, tab(cols(num("id")), of(in(1), in(2), in(5))), 6, api.OK)
		})
	}
}

// Group by group, of each one the heads first.
func TestU2GroupByGroup(t *testing.T) {
	every := all(null(0), null(0), not, or)
	p := taken(birds(), 2, 2)
	p.chunks[0][2] += "\x00"
	p.behead(1, 0)
	notScan(t, p.file(), every, nil, api.ErrState)
	notScan(t, p.file(), all(is(0, in(5))), nil, api.ErrSum)
	p = taken(birds(), 2, 2)
	p.chunks[0][0] += "\x00"
	p.behead(0, 2)
	notScan(t, p.file(), every, nil, api.ErrSum)
	p = taken(birds(), 2, 2)
	p.hurt(1, 0)
	p.chunks[1][1] += "\x00"
	p.chunks[2][0] = sealed("\x03")
	notScan(t, p.file(), every, nil, api.ErrSum)
	notScan(t, p.file(), all(is(0, in(5))), nil, api.ErrKind)
	p = taken(birds(), 2, 2)
	p.hurt(1, 1)
	p.chunks[1][0] += "\x00"
	notScan(t, p.file(), every, nil, api.ErrState)
}

func TestU3Scan(t *testing.T) {
	read, left := 0, 0
	eachFile(func(d *draw, is api.Table, per, group int, s string) {
		var kinds []int
		for _, c := range is.Cols {
			kinds = append(kinds, c.Kind)
		}
		for range 6 {
			p, names := d.condition(is), d.names(is)
			pages := 0
			for from := 0; from < rowsOf(is); from += group {
				k := knownOf(is, per, from, min(from+group, rowsOf(is)))
				if may, _ := pred.Prune(p, kinds, k.stats, k.filters); may&api.MayTrue != 0 {
					pages += k.pages
					read++
				} else {
					left++
				}
			}
			wantScan(t, s, p, names, asked(is, p, names), pages, api.OK)
		}
	})
	if read < 1000 || left < 1000 {
		t.Errorf("%d groups were read, %d not", read, left)
	}
}

// Of groups of which nothing can be True no page is read, of all others each one.
func TestU3NotRead(t *testing.T) {
	var d draw
	for range 40 {
		is := d.table(3, 30)
		p := d.condition(is)
		kinds := []int{is.Cols[0].Kind, is.Cols[1].Kind, is.Cols[2].Kind}
		names := []string{"c", "a"}
		whole := taken(is, 2, 5).file()
		out, pages, _ := scan.Scan(whole, p, names)
		for group := range 6 {
			k := knownOf(is, 2, 5*group, 5*group+5)
			may, _ := pred.Prune(p, kinds, k.stats, k.filters)
			for column := range 3 {
				parts := taken(is, 2, 5)
				parts.hurt(group, column)
				if may&api.MayTrue == 0 {
					wantScan(t, parts.file(), p, names, out, pages, api.OK)
				} else {
					notScan(t, parts.file(), p, names, api.ErrSum)
				}
			}
		}
	}
}

// Whatever a text is, of one thing it is told, and what is told is a table.
func TestP1Strange(t *testing.T) {
	s := taken(birds(), 2, 2).file()
	texts := []string{}
	for at := range len(s) {
		texts = append(texts, s[:at], s[at:], s[:at]+"COL1", changed(s, at+1))
	}
	p := taken(birds(), 2, 2)
	for at := range len(p.chunks[1][1]) {
		for _, c := range []string{"", "\x00", "\x01", "\x7f", "\xff"} {
			p.chunks[1][1] = taken(birds(), 2, 2).chunks[1][1]
			p.chunks[1][1] = p.chunks[1][1][:at] + c + p.chunks[1][1][at+1:]
			texts = append(texts, p.file())
		}
	}
	told := map[api.Errno]int{}
	for _, s := range texts {
		for _, at := range []int{math.MinInt, -1, 0, 1, 2, 3, math.MaxInt} {
			k, f, n, e := scan.Known(s, at)
			if e != api.OK && (len(k) != 0 || len(f) != 0 || n != 0) || e == api.OK && (len(k) != 3 || len(f) != 3 || n != 3) {
				t.Errorf("Known(%q, %d) = %v %x %d %d", s, at, k, f, n, e)
			}
		}
		for _, cond := range [][]api.Cond{nil, all(null(0)), all(is(1, tx("wren"))), all(null(2), not)} {
			is, pages, e := scan.Scan(s, cond, []string{"seen", "name"})
			if table.Check(is) != api.OK || e != api.OK && (!same(is, api.Table{}) || pages != 0) || e == api.OK && pages%3 != 0 {
				t.Errorf("Scan(%q, %v) = %v %d %d", s, cond, is, pages, e)
			}
			told[e]++
		}
	}
	if told[api.OK] < 5 || told[api.ErrForm] < 5 || told[api.ErrSum] < 5 || told[api.ErrNone] < 5 {
		t.Errorf("what is told: %v", told)
	}
}

func TestP2OnlyRead(t *testing.T) {
	s := taken(birds(), 2, 2).file()
	p := append(all(more(0, in(1)), is(1, tx("")), or), is(0, in(99)))
	names := []string{"seen", "id", "spare"}
	g, _, _ := scan.Scan(s, p[:3], names[:2])
	if !slices.Equal(p, all(more(0, in(1)), is(1, tx("")), or, is(0, in(99)))) || !slices.Equal(names, []string{"seen", "id", "spare"}) {
		t.Error("a condition, names, or the room behind them were changed")
	}
	clear(p)
	clear(names)
	want := tab(cols(num("seen"), num("id")), of(in(7), gone, in(math.MaxUint64)), of(in(2), in(9), in(5)))
	if !same(g, want) {
		t.Errorf("Scan kept what it was handed: %v", g)
	}
}

func TestP2NewMemory(t *testing.T) {
	s := taken(birds(), 2, 2).file()
	p, names := all(null(0), not), []string{"name", "id"}
	want, pages, _ := scan.Scan(s, p, names)
	for spoilt := range 2 {
		g, _, _ := scan.Scan(s, p, names)
		l := g.Data[spoilt][:cap(g.Data[spoilt])]
		for at := range l {
			l[at] = tx("spoilt")
		}
		if !slices.Equal(g.Data[1-spoilt], want.Data[1-spoilt]) {
			t.Error("two lists share memory")
		}
		clear(g.Cols[:cap(g.Cols)])
		clear(g.Data[:cap(g.Data)])
	}
	wantScan(t, s, p, names, want, pages, api.OK)
	k, f, _, _ := scan.Known(s, 1)
	clear(k[:cap(k)])
	clear(f[:cap(f)])
	wantKnown(t, s, 1, knownOf(birds(), 2, 2, 4), api.OK)
}

func TestP3SameAgain(t *testing.T) {
	var d draw
	is := d.table(4, 60)
	s := taken(is, 3, 10).file()
	p, names := d.condition(is), []string{"d", "a"}
	out, pages, e := scan.Scan(s, p, names)
	var workers sync.WaitGroup
	for range 8 {
		workers.Go(func() {
			for range 10 {
				scan.Scan(taken(birds(), 2, 2).file(), all(null(0)), nil)
				scan.Scan(s[1:], nil, nil)
				scan.Known(s, 9)
				wantScan(t, s, p, names, out, pages, e)
				wantKnown(t, s, 2, knownOf(is, 3, 20, 30), api.OK)
			}
		})
	}
	workers.Wait()
}

func TestP4LongOnes(t *testing.T) {
	rest := strings.Repeat("x", 1<<24)
	wantKnown(t, rest, 0, known{}, api.ErrForm)
	wantKnown(t, "COL1"+rest+"COL1", 0, known{}, api.ErrForm)
	notScan(t, "COL1"+rest+"COL1", nil, nil, api.ErrForm)
	p := taken(birds(), 2, 2)
	p.chunks[1][2] += rest
	s := p.file()
	wantKnown(t, s, 1, knownOf(birds(), 2, 2, 4), api.OK)
	wantKnown(t, s, 2, knownOf(birds(), 2, 4, 5), api.OK)
	notScan(t, s, all(is(0, in(9))), nil, api.ErrState)
	wantScan(t, s, all(is(0, in(5))), []string{"id"}, tab(cols(num("id")), of(in(5))), 3, api.OK)
	notScan(t, s, make([]api.Cond, 1<<20), nil, api.ErrMany)
	notScan(t, s, all(null(0)), make([]string, 1<<20), api.ErrNone)
	notScan(t, s, all(null(0)), slices.Repeat([]string{"id"}, 1<<20), api.ErrTwice)
	notScan(t, s, all(is(1, tx(rest))), nil, api.ErrMany)
}
