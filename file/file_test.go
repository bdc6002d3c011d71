package file_test

import (
	"encoding/binary"
	"hash/adler32"
	"math"
	"slices"
	"strings"
	"sync"
	"testing"

	"hypostyle/api"
	"hypostyle/chunk"
	"hypostyle/file"
	"hypostyle/table"
	"hypostyle/vary"
)

// of: a list of cells.
func of(l ...api.Cell) []api.Cell { return l }

func in(n uint64) api.Cell { return api.Cell{Kind: api.Number, N: n} }
func tx(s string) api.Cell { return api.Cell{Kind: api.Text, S: s} }

// gone: a Null.
var gone api.Cell

// wide: a text of the most bytes.
var wide = strings.Repeat("w", api.MaxText)

func num(name string) api.Column { return api.Column{Name: name, Kind: api.Number} }
func txt(name string) api.Column { return api.Column{Name: name, Kind: api.Text} }

// cols: a list of columns.
func cols(l ...api.Column) []api.Column { return l }

// tab: a table of columns and their cells.
func tab(c []api.Column, data ...[]api.Cell) api.Table { return api.Table{Cols: c, Data: data} }

// birds: a table of three columns and five rows, each time another one.
func birds() api.Table {
	return tab(cols(num("id"), txt("name"), num("seen")),
		of(in(1), in(2), in(9), gone, in(5)),
		of(tx("rook"), gone, tx("wren"), tx("rook"), tx("")),
		of(in(7), in(7), gone, in(0), in(math.MaxUint64)))
}

// sample: so many cells of a kind, some of them Nulls.
func sample(kind, many int) []api.Cell {
	l := make([]api.Cell, many)
	for i := range l {
		switch {
		case (i*i+many)%5 == 0:
		case kind == api.Number:
			l[i] = in(uint64(i*i+many) << (i % 50))
		default:
			l[i] = tx((string([]byte{byte(i * 3), byte(255 - i)}) + wide)[:i%17])
		}
	}
	return l
}

// most: a table of so many columns, the first one of a kind, of so many rows.
func most(columns, kind, rows int) api.Table {
	var t api.Table
	for i := range columns {
		kind = 3 - kind
		t.Cols = append(t.Cols, api.Column{Name: strings.Repeat(string([]byte{'a' + byte(i)}), 2*i+1), Kind: kind})
		t.Data = append(t.Data, sample(kind, rows))
	}
	return t
}

// tables of many sizes, each time others.
func tables() []api.Table {
	all := []api.Table{{}, birds(), tab(cols(num("abcdefghijkl")), of(in(1)))}
	for _, rows := range []int{0, 1, 2, 3, 17, 64, 65, 127, 128} {
		all = append(all, most(1, api.Number, rows), most(2, api.Text, rows), most(6, api.Number, rows))
	}
	return all
}

// number: the bytes of one.
func number(n int) string { return vary.Write(uint64(n)) }

// four: a number as four bytes.
func four(n int) string { return string(binary.BigEndian.AppendUint32(nil, uint32(n))) }

// sealed: a body with its length and its sum, as the document tells it.
func sealed(body string) string {
	return number(len(body)) + body + four(int(adler32.Checksum([]byte(body))))
}

// column of a foot, as the document tells it.
func column(c api.Column) string {
	return string([]byte{byte(c.Kind)}) + number(len(c.Name)) + c.Name
}

// body of a foot, as the document tells it.
func body(cols []api.Column, groups []api.Group) string {
	s := number(len(cols))
	for _, c := range cols {
		s += column(c)
	}
	s += number(len(groups))
	for _, g := range groups {
		s += number(g.Rows)
		for _, size := range g.Sizes {
			s += number(size)
		}
	}
	return s
}

// framed: a file of chunks and a foot, as the document tells it.
func framed(chunks, foot string) string {
	return "COL1" + chunks + foot + four(len(foot)) + "COL1"
}

// filed: a file of whose chunks the foot says this.
func filed(cols []api.Column, groups []api.Group, chunks string) string {
	return framed(chunks, sealed(body(cols, groups)))
}

// rowsOf: how many a table has.
func rowsOf(t api.Table) int {
	n, _ := table.Rows(t)
	return n
}

// groupsOf: a table's groups, and the bytes of all of their chunks.
func groupsOf(t api.Table, per, group int) ([]api.Group, string) {
	var groups []api.Group
	chunks := ""
	for from := 0; from < rowsOf(t); from += group {
		end := min(from+group, rowsOf(t))
		g := api.Group{Rows: end - from}
		for i, c := range t.Cols {
			s, _ := chunk.Write(c.Kind, t.Data[i][from:end], per)
			g.Sizes = append(g.Sizes, len(s))
			chunks += s
		}
		groups = append(groups, g)
	}
	return groups, chunks
}

// spelt: a table as a file, as the document tells it.
func spelt(t api.Table, per, group int) string {
	groups, chunks := groupsOf(t, per, group)
	return filed(t.Cols, groups, chunks)
}

// fits: may so many rows be written so?
func fits(rows, per, group int) bool {
	first := min(rows, group)
	return (rows+group-1)/group <= api.MaxGroups && (first+per-1)/per <= api.MaxPages
}

// eachFile hands on many tables, and how they are written.
func eachFile(hand func(is api.Table, per, group int, s string)) {
	for _, is := range tables() {
		for _, per := range []int{1, 2, 3, 8, 63, 64} {
			for _, group := range []int{1, 2, 3, 16, 17, 64, 127, 128} {
				if fits(rowsOf(is), per, group) {
					hand(is, per, group, spelt(is, per, group))
				}
			}
		}
	}
}

// same tables? Lists without elements are the same, nil or not.
func same(a, b api.Table) bool {
	return slices.Equal(a.Cols, b.Cols) && slices.EqualFunc(a.Data, b.Data, slices.Equal[[]api.Cell])
}

// sameGroups: are they?
func sameGroups(a, b []api.Group) bool {
	return slices.EqualFunc(a, b, func(x, y api.Group) bool { return x.Rows == y.Rows && slices.Equal(x.Sizes, y.Sizes) })
}

func wantWrite(t *testing.T, is api.Table, per, group int, s string, e api.Errno) {
	t.Helper()
	if gs, ge := file.Write(is, per, group); gs != s || ge != e {
		t.Errorf("Write(%v, %d, %d) = %.200q %d, must be %.200q %d", is, per, group, gs, ge, s, e)
	}
}

func wantFoot(t *testing.T, s string, c []api.Column, g []api.Group, e api.Errno) {
	t.Helper()
	if gc, gg, ge := file.Foot(s); !slices.Equal(gc, c) || !sameGroups(gg, g) || ge != e {
		t.Errorf("Foot(%.200q) = %v %v %d, must be %v %v %d", s, gc, gg, ge, c, g, e)
	}
}

func wantRead(t *testing.T, s string, is api.Table, e api.Errno) {
	t.Helper()
	if g, ge := file.Read(s); !same(g, is) || ge != e {
		t.Errorf("Read(%.200q) = %v %d, must be %v %d", s, g, ge, is, e)
	}
}

func wantPart(t *testing.T, s string, names []string, from, many int, is api.Table, e api.Errno) {
	t.Helper()
	if g, ge := file.Part(s, names, from, many); !same(g, is) || ge != e {
		t.Errorf("Part(%.200q, %q, %d, %d) = %v %d, must be %v %d", s, names, from, many, g, ge, is, e)
	}
}

// wantWrong: no foot, whoever reads it.
func wantWrong(t *testing.T, s string, e api.Errno) {
	t.Helper()
	wantFoot(t, s, nil, nil, e)
	wantRead(t, s, api.Table{}, e)
	wantPart(t, s, []string{"zz", "zz"}, -1, -1, api.Table{}, e)
}

// part: columns of names, and so many rows from a place on, of a table.
func part(is api.Table, names []string, from, many int) api.Table {
	p, _ := table.Project(is, names)
	p, _ = table.Slice(p, from, many)
	return p
}

func TestT1Spelt(t *testing.T) {
	wantWrite(t, api.Table{}, 1, 1, "COL1\x02\x00\x00\x00\x02\x00\x01\x00\x00\x00\x07COL1", api.OK)
	wantWrite(t, tab(cols(num("a")), nil), 64, 128, "COL1\x05\x01\x01\x01a\x00\x00\xd3\x00\x65\x00\x00\x00\x0aCOL1", api.OK)
	one, _ := chunk.Write(api.Number, of(in(1), in(2)), 2)
	two, _ := chunk.Write(api.Text, of(tx("rook"), gone), 2)
	three, _ := chunk.Write(api.Number, of(in(9)), 2)
	four, _ := chunk.Write(api.Text, of(tx("wren")), 2)
	foot := sealed("\x02\x01\x02id\x02\x04name\x02" + "\x02" + number(len(one)) + number(len(two)) + "\x01" + number(len(three)) + number(len(four)))
	s := "COL1" + one + two + three + four + foot + "\x00\x00\x00" + string([]byte{byte(len(foot))}) + "COL1"
	is := tab(cols(num("id"), txt("name")), of(in(1), in(2), in(9)), of(tx("rook"), gone, tx("wren")))
	wantWrite(t, is, 2, 2, s, api.OK)
	wantRead(t, s, is, api.OK)
}

func TestT1Write(t *testing.T) {
	files := 0
	eachFile(func(is api.Table, per, group int, s string) {
		files++
		wantWrite(t, is, per, group, s, api.OK)
	})
	if files < 500 {
		t.Errorf("%d files were written", files)
	}
}

func TestT1Errors(t *testing.T) {
	twice := tab(cols(num("a"), num("a")), nil, nil)
	for _, c := range []struct {
		t          api.Table
		per, group int
		e          api.Errno
	}{
		{twice, 0, 0, api.ErrTwice},
		{twice, 1, 1, api.ErrTwice},
		{tab(make([]api.Column, 7)), 0, 0, api.ErrMany},
		{tab(cols(num("a"))), 1, 0, api.ErrForm},
		{tab(cols(num("a")), of(tx("x"))), 65, 129, api.ErrKind},
		{tab(cols(num("a")), make([]api.Cell, 129)), 64, 128, api.ErrMany},
		{birds(), 0, 1, api.ErrRange},
		{birds(), 65, 1, api.ErrRange},
		{birds(), 1, 0, api.ErrRange},
		{birds(), 1, 129, api.ErrRange},
		{birds(), -1, -1, api.ErrRange},
		{api.Table{}, 0, 1, api.ErrRange},
		{api.Table{}, 1, 0, api.ErrRange},
		{api.Table{}, 64, 129, api.ErrRange},
		{most(1, 1, 128), 0, 1, api.ErrRange},
		{most(1, 1, 128), 1, 129, api.ErrRange},
		{most(1, 1, 128), math.MaxInt, 1, api.ErrRange},
		{most(1, 1, 128), 1, math.MinInt, api.ErrRange},
		{most(1, 1, 9), 1, 1, api.ErrMany},
		{most(1, 1, 17), 64, 2, api.ErrMany},
		{most(1, 1, 128), 64, 15, api.ErrMany},
		{most(1, 1, 17), 1, 17, api.ErrMany},
		{most(1, 1, 17), 1, 128, api.ErrMany},
		{most(1, 1, 33), 2, 33, api.ErrMany},
		{most(1, 1, 128), 7, 128, api.ErrMany},
		{most(1, 1, 128), 1, 17, api.ErrMany},
	} {
		wantWrite(t, c.t, c.per, c.group, "", c.e)
	}
}

func TestT1Limits(t *testing.T) {
	for rows := range api.MaxRows + 1 {
		is := most(1, 1, rows)
		for _, per := range []int{1, 2, 7, 8, 63, 64} {
			for _, group := range []int{1, 2, 8, 15, 16, 17, 32, 33, 127, 128} {
				if fits(rows, per, group) {
					wantWrite(t, is, per, group, spelt(is, per, group), api.OK)
				} else {
					wantWrite(t, is, per, group, "", api.ErrMany)
				}
			}
		}
	}
}

func TestT2Foot(t *testing.T) {
	eachFile(func(is api.Table, per, group int, s string) {
		groups, _ := groupsOf(is, per, group)
		wantFoot(t, s, is.Cols, groups, api.OK)
	})
	// Chunks are not read for it, groups need not be of the same size, and what chunks
	// there are may be empty.
	a, b := cols(num("a")), cols(num("a"), txt("abcdefghijkl"))
	for _, c := range []struct {
		cols   []api.Column
		groups []api.Group
		chunks string
	}{
		{a, []api.Group{{Rows: 128, Sizes: []int{5}}}, "chunk"},
		{a, []api.Group{{Rows: 1, Sizes: []int{0}}}, ""},
		{b, []api.Group{{Rows: 1, Sizes: []int{0, 5}}, {Rows: 9, Sizes: []int{0, 0}}, {Rows: 118, Sizes: []int{300, 0}}}, strings.Repeat("c", 305)},
		{b, slices.Repeat([]api.Group{{Rows: 16, Sizes: []int{1, 2}}}, 8), strings.Repeat("COL1", 6)},
	} {
		wantFoot(t, filed(c.cols, c.groups, c.chunks), c.cols, c.groups, api.OK)
	}
}

func TestT2Frame(t *testing.T) {
	good := sealed("\x00\x00")
	for _, s := range []string{
		"", "C", "COL1", "COL1COL", "COL1OL1", "COLCOL1", "COL1COL1", "COL1\x00\x00\x00COL1", "COL1\x00\x00\x00\x01COL1",
		"col1" + good + "\x00\x00\x00\x07COL1", "COL1" + good + "\x00\x00\x00\x07COL2", "COL2" + good + "\x00\x00\x00\x07COL1",
		"COL1" + good + "\x00\x00\x00\x07COL1 ", " COL1" + good + "\x00\x00\x00\x07COL1",
		"COL1" + good + "\x00\x00\x00\x08COL1", "COL1" + good + "\xff\xff\xff\xffCOL1", "COL1" + good + "\x80\x00\x00\x00COL1",
		"COL1" + good + "\x07\x00\x00\x00COL1", "COL1" + good[1:] + "\x00\x00\x00\x07COL1", good, good + "\x00\x00\x00\x07COL1",
	} {
		wantWrong(t, s, api.ErrForm)
	}
	for _, foot := range []string{
		"", "\x00", good[:6], good + "\x00", "\x00" + good, "\x80\x02" + good[1:], "\xff" + strings.Repeat("\xff", 30),
		"\x02\x00\x00\x00\x02\x00\x02", "\x01\x00\x00\x00\x02\x00\x01", "\x03\x00\x00\x00\x02\x00\x01", "\x02\x00\x01\x00\x02\x00\x01",
	} {
		wantWrong(t, framed("", foot), api.ErrSum)
		wantWrong(t, framed("chunks", foot), api.ErrSum)
	}
	wantWrong(t, "COL1"+good+"\x00\x00\x00\x06COL1", api.ErrSum)
	wantFoot(t, framed("", good), nil, nil, api.OK)
}

func TestT2Body(t *testing.T) {
	a, b := column(num("a")), column(txt("b"))
	six := a + b + column(num("c")) + column(num("d")) + column(num("e")) + column(num("f"))
	for _, body := range []string{
		"", "\x00", "\x80", "\x80\x00", "\x00\x80", "\x00\x80\x00", "\x00\x00\x00", "\x00\x01", "\x00\x01\x01", "\x00\x01\x00", "\x01",
		"\x01\x01", "\x01\x01\x80", "\x01\x01\x80\x01a\x00", "\x01\x01\x00\x00", "\x01\x01\x02a", "\x01\x01\x0dabcdefghijklm\x00",
		"\x01\x00\x01a\x00", "\x01\x03\x01a\x00", "\x01\xff\x01a\x00", "\x01\x01\x01A\x00", "\x01\x01\x02a \x00", "\x01" + a,
		"\x02" + a + "\x00", "\x02" + a + a + "\x00", "\x02" + a + "\x02\x01a\x00", "\x03" + a + b + a + "\x00",
		"\x07" + six + column(num("g")) + "\x00", "\x07" + six + a + "\x00", "\xff" + strings.Repeat("\xff", 8) + a + "\x00",
		"\x01" + a + "\x09" + strings.Repeat("\x01\x00", 9), "\x01" + a + "\x01", "\x01" + a + "\x01\x00\x00", "\x01" + a + "\x01\x01",
		"\x01" + a + "\x01\x80\x81\x00", "\x01" + a + "\x01\x80\x01\x00", "\x01" + a + "\x02\x40\x00\x41\x00", "\x01" + a + "\x02\x01\x00\x80\x80\x00",
		"\x01" + a + "\x01\xff" + strings.Repeat("\xff", 8) + "\x00", "\x01" + a + "\x02\x01\x00\x00\x00", "\x01" + a + "\x02\x01\x00",
		"\x01" + a + "\x01\x01\x80", "\x01" + a + "\x01\x01\x80\x00", "\x01" + a + "\x01\x01\x00\x00", "\x02" + a + b + "\x01\x01\x00",
		"\x02" + a + b + "\x01\x01\x00\x00\x00", "\x06" + six + "\x01\x01\x00\x00\x00\x00\x00", "\x01" + a + "\x80\x01\x01\x00",
	} {
		wantWrong(t, framed("", sealed(body)), api.ErrForm)
	}
	for _, body := range []string{
		"\x00\x00", "\x01" + a + "\x00", "\x06" + six + "\x00", "\x01" + a + "\x01\x01\x00", "\x01" + a + "\x01\x80\x80\x00",
		"\x01" + a + "\x02\x40\x00\x40\x00", "\x06" + six + "\x01\x01\x00\x00\x00\x00\x00\x00", "\x01" + a + "\x08" + strings.Repeat("\x10\x00", 8),
	} {
		if _, _, e := file.Foot(framed("", sealed(body))); e != api.OK {
			t.Errorf("Foot of %q has %d", body, e)
		}
	}
}

func TestT2Sizes(t *testing.T) {
	c := cols(num("a"), num("b"))
	two := func(a, b, c, d int) []api.Group {
		return []api.Group{{Rows: 1, Sizes: []int{a, b}}, {Rows: 1, Sizes: []int{c, d}}}
	}
	for _, g := range [][]api.Group{two(1, 2, 3, 3), two(1, 2, 3, 5), two(0, 0, 0, 0), two(11, 0, 0, 0), two(0, 0, 0, 9), two(math.MaxInt, 11, 0, 0), two(math.MaxInt, math.MaxInt, 12, 0), two(10, -1, 1, 0)} {
		wantWrong(t, filed(c, g, "ten bytes."), api.ErrForm)
	}
	// Together as many as they must be, if they run over.
	wantWrong(t, filed(c, two(1<<62, 1<<62, 1<<62, 1<<62+10), "ten bytes."), api.ErrForm)
	wantWrong(t, filed(c, nil, "ten bytes."), api.ErrForm)
	wantWrong(t, filed(nil, nil, "ten bytes."), api.ErrForm)
	for _, g := range [][]api.Group{two(1, 2, 3, 4), two(10, 0, 0, 0), two(0, 0, 0, 10)} {
		wantFoot(t, filed(c, g, "ten bytes."), c, g, api.OK)
	}
}

// parts of a file: what its foot says, and each of its chunks.
type parts struct {
	cols   []api.Column
	groups []api.Group
	chunks [][]string
}

// taken: a table's parts, by groups, of each by columns.
func taken(is api.Table, per, group int) parts {
	groups, all := groupsOf(is, per, group)
	p := parts{is.Cols, groups, nil}
	for _, g := range groups {
		var l []string
		for _, size := range g.Sizes {
			l, all = append(l, all[:size]), all[size:]
		}
		p.chunks = append(p.chunks, l)
	}
	return p
}

// file of these parts.
func (p parts) file() string {
	s := ""
	for _, l := range p.chunks {
		s += strings.Join(l, "")
	}
	return filed(p.cols, p.groups, s)
}

// put: another chunk, of its own size.
func (p parts) put(group, column int, s string) {
	p.chunks[group][column] = s
	p.groups[group].Sizes[column] = len(s)
}

// damage a chunk's last byte.
func (p parts) damage(group, column int) {
	s := []byte(p.chunks[group][column])
	s[len(s)-1] ^= 1
	p.chunks[group][column] = string(s)
}

func TestT3Read(t *testing.T) {
	eachFile(func(is api.Table, per, group int, s string) { wantRead(t, s, is, api.OK) })
	// Groups of whatever sizes, pages too.
	first, _ := chunk.Write(api.Number, sample(api.Number, 3), 2)
	second, _ := chunk.Write(api.Number, sample(api.Number, 100), 64)
	groups := []api.Group{{Rows: 3, Sizes: []int{len(first)}}, {Rows: 100, Sizes: []int{len(second)}}}
	s := filed(cols(num("a")), groups, first+second)
	wantRead(t, s, tab(cols(num("a")), slices.Concat(sample(api.Number, 3), sample(api.Number, 100))), api.OK)
}

// wrong: what is done to parts, and what is told of it.
type wrong struct {
	spoil func(p parts)
	e     api.Errno
}

// wrongParts: what may be wrong with the chunk of name in the second group of birds.
func wrongParts() map[string]wrong {
	write := func(kind int, l ...api.Cell) string {
		s, _ := chunk.Write(kind, l, 2)
		return s
	}
	return map[string]wrong{
		"damaged":         {func(p parts) { p.damage(1, 1) }, api.ErrSum},
		"a byte fewer":    {func(p parts) { s := p.chunks[1][1]; p.put(1, 1, s[:len(s)-1]) }, api.ErrSum},
		"a byte more":     {func(p parts) { p.put(1, 1, p.chunks[1][1]+"\x00") }, api.ErrState},
		"a row more":      {func(p parts) { p.put(1, 1, write(api.Text, tx("a"), gone, tx("b"))) }, api.ErrState},
		"a row fewer":     {func(p parts) { p.put(1, 1, write(api.Text, tx("a"))) }, api.ErrState},
		"no rows":         {func(p parts) { p.put(1, 1, write(api.Text)) }, api.ErrState},
		"another kind":    {func(p parts) { p.put(1, 1, write(api.Number, in(1), in(2))) }, api.ErrState},
		"Nulls of one":    {func(p parts) { p.put(1, 1, write(api.Number, gone, gone)) }, api.ErrState},
		"said to be less": {func(p parts) { p.groups[1].Sizes[1]--; p.groups[1].Sizes[2]++ }, api.ErrState},
		"said to be more": {func(p parts) { p.groups[1].Sizes[1]++; p.groups[1].Sizes[2]-- }, api.ErrState},
		"more rows said":  {func(p parts) { p.groups[1].Rows++ }, api.ErrState},
		"empty":           {func(p parts) { p.put(1, 1, "") }, api.ErrState},
		"an empty head":   {func(p parts) { p.put(1, 1, sealed("")) }, api.ErrNone},
		"no such kind":    {func(p parts) { p.put(1, 1, sealed("\x03\x00")) }, api.ErrKind},
		"many pages":      {func(p parts) { p.put(1, 1, sealed("\x02\x11")) }, api.ErrMany},
		"a longer head":   {func(p parts) { p.put(1, 1, sealed("\x02\x00\x00")) }, api.ErrForm},
	}
}

func TestT3Errors(t *testing.T) {
	name := []string{"name"}
	for what, c := range wrongParts() {
		p := taken(birds(), 2, 2)
		c.spoil(p)
		s := p.file()
		t.Run(what, func(t *testing.T) {
			wantPart(t, s, name, 2, 1, api.Table{}, c.e)
			wantPart(t, s, name, 3, 1, api.Table{}, c.e)
			wantPart(t, s, name, 0, 128, api.Table{}, c.e)
			wantPart(t, s, name, 0, 2, part(birds(), name, 0, 2), api.OK)
			wantPart(t, s, name, 1, 0, part(birds(), name, 1, 0), api.OK)
			wantPart(t, s, []string{"id"}, 0, 2, part(birds(), []string{"id"}, 0, 2), api.OK)
			if what != "more rows said" {
				wantRead(t, s, api.Table{}, c.e)
				wantPart(t, s, []string{"id"}, 0, 9, part(birds(), []string{"id"}, 0, 9), api.OK)
			}
			if !strings.HasPrefix(what, "said") && what != "more rows said" {
				wantPart(t, s, []string{"id", "seen"}, 0, 9, part(birds(), []string{"id", "seen"}, 0, 9), api.OK)
				wantPart(t, s, name, 4, 9, part(birds(), name, 4, 9), api.OK)
			}
		})
	}
}

func TestT3FirstChunk(t *testing.T) {
	// Of Read the first chunk in the order of the file, of Part the first one of the
	// first column.
	p := taken(birds(), 2, 2)
	p.damage(0, 1)
	p.put(1, 0, p.chunks[1][0]+"\x00")
	s := p.file()
	wantRead(t, s, api.Table{}, api.ErrSum)
	wantPart(t, s, []string{"id", "name"}, 0, 9, api.Table{}, api.ErrState)
	wantPart(t, s, []string{"seen", "id", "name"}, 1, 2, api.Table{}, api.ErrState)
	wantPart(t, s, []string{"name", "id"}, 0, 9, api.Table{}, api.ErrSum)
	wantPart(t, s, []string{"seen"}, 0, 9, part(birds(), []string{"seen"}, 0, 9), api.OK)
	wantPart(t, s, []string{"id"}, 0, 2, part(birds(), []string{"id"}, 0, 2), api.OK)
	wantPart(t, s, []string{"id", "name"}, 4, 2, part(birds(), []string{"id", "name"}, 4, 2), api.OK)
	wantPart(t, s, []string{"id", "name"}, 2, 2, api.Table{}, api.ErrState)
	wantPart(t, s, []string{"name"}, 2, 2, part(birds(), []string{"name"}, 2, 2), api.OK)
	// In one column group by group.
	p = taken(birds(), 2, 2)
	p.put(0, 2, p.chunks[0][2]+"\x00")
	p.damage(1, 2)
	p.put(2, 2, "")
	s = p.file()
	wantPart(t, s, []string{"seen"}, 0, 9, api.Table{}, api.ErrState)
	wantPart(t, s, []string{"seen"}, 2, 9, api.Table{}, api.ErrSum)
	wantPart(t, s, []string{"seen"}, 1, 1, api.Table{}, api.ErrState)
	wantRead(t, s, api.Table{}, api.ErrState)
}

func TestT3Part(t *testing.T) {
	lists := [][]string{nil, {"a"}, {"bbb"}, {"bbb", "a"}, {"fffffffffff", "a", "ccccc"}, {"id"}, {"seen", "name"}, {"id", "name", "seen"}}
	places := []int{0, 1, 2, 3, 4, 5, 15, 16, 17, 63, 64, 65, 127, 128, 129, math.MaxInt - 1, math.MaxInt}
	eachFile(func(is api.Table, per, group int, s string) {
		if per != 8 && group > 3 {
			return
		}
		for _, names := range lists {
			if _, e := table.Project(is, names); e != api.OK {
				wantPart(t, s, names, -1, -1, api.Table{}, e)
				continue
			}
			for _, from := range places {
				for _, many := range []int{0, 1, 3, 16, 64, math.MaxInt} {
					wantPart(t, s, names, from, many, part(is, names, from, many), api.OK)
				}
			}
		}
	})
}

func TestT3PartErrors(t *testing.T) {
	s := spelt(birds(), 2, 2)
	p := taken(birds(), 2, 2)
	p.damage(0, 0)
	for _, c := range []struct {
		names      []string
		from, many int
		e          api.Errno
	}{
		{[]string{"zz"}, -1, -1, api.ErrNone},
		{[]string{""}, 0, 1, api.ErrNone},
		{[]string{"ID"}, 0, 1, api.ErrNone},
		{[]string{"zz", "zz"}, 0, 1, api.ErrNone},
		{[]string{"id", "zz", "id"}, 0, 1, api.ErrNone},
		{[]string{"id", "id", "zz"}, -1, -1, api.ErrTwice},
		{[]string{"id", "name", "seen", "name"}, 0, 1, api.ErrTwice},
		{[]string{"id"}, -1, 1, api.ErrRange},
		{[]string{"id"}, 1, -1, api.ErrRange},
		{[]string{"id"}, math.MinInt, math.MaxInt, api.ErrRange},
		{[]string{"id"}, 9, math.MinInt, api.ErrRange},
		{nil, -1, 0, api.ErrRange},
		{nil, 0, -1, api.ErrRange},
	} {
		wantPart(t, s, c.names, c.from, c.many, api.Table{}, c.e)
		wantPart(t, p.file(), c.names, c.from, c.many, api.Table{}, c.e)
	}
	wantPart(t, p.file(), []string{"id"}, 0, 1, api.Table{}, api.ErrSum)
	wantPart(t, p.file(), nil, 0, 9, api.Table{}, api.OK)
}

func TestT4ReadAsItWas(t *testing.T) {
	eachFile(func(is api.Table, per, group int, _ string) {
		s, _ := file.Write(is, per, group)
		wantRead(t, s, is, api.OK)
	})
}

// One byte changed, or two side by side changed about, is seen.
func TestT4Changed(t *testing.T) {
	s := spelt(birds(), 2, 2)
	for at := range len(s) {
		for _, by := range []byte{1, 2, 0x80, 0xff} {
			wrong := []byte(s)
			wrong[at] ^= by
			if g, e := file.Read(string(wrong)); e == api.OK || !same(g, api.Table{}) {
				t.Errorf("byte %d changed by %d is read: %v %d", at, by, g, e)
			}
		}
		if at > 0 && s[at] != s[at-1] {
			wrong := []byte(s)
			wrong[at], wrong[at-1] = wrong[at-1], wrong[at]
			if g, e := file.Read(string(wrong)); e == api.OK || !same(g, api.Table{}) {
				t.Errorf("bytes %d and the one before changed about are read: %v %d", at, g, e)
			}
		}
	}
}

// Whatever a text is, who reads it tells of one thing, and what is read is a table.
func TestP1Strange(t *testing.T) {
	s := spelt(birds(), 2, 2)
	groups, chunks := groupsOf(birds(), 2, 2)
	foot := body(birds().Cols, groups)
	all := []string{}
	for at := range len(s) {
		all = append(all, s[:at], s[at:], s[:at]+s, s[:at]+"COL1", s[at:]+s[:at])
	}
	for at := range len(foot) {
		for _, c := range []string{"", "\x00", "\x01", "\x02", "\x7f", "\x80", "\xff", "ab"} {
			all = append(all, framed(chunks, sealed(foot[:at]+c+foot[at+1:])), framed(chunks, sealed(foot[:at]+c)))
		}
	}
	told := map[api.Errno]int{}
	for _, s := range all {
		c, g, e := file.Foot(s)
		if e != api.OK && (len(c) != 0 || len(g) != 0) {
			t.Errorf("Foot(%q) = %v %v %d", s, c, g, e)
		}
		is, f := file.Read(s)
		if table.Check(is) != api.OK || e != api.OK && f != e || f != api.OK && !same(is, api.Table{}) {
			t.Errorf("Read(%q) = %v %d", s, is, f)
		}
		for _, names := range [][]string{nil, {"name"}, {"seen", "id"}} {
			for _, from := range []int{math.MinInt, -1, 0, 3, math.MaxInt} {
				p, f := file.Part(s, names, from, 2)
				if table.Check(p) != api.OK || e != api.OK && f != e || f != api.OK && !same(p, api.Table{}) {
					t.Errorf("Part(%q, %q, %d, 2) = %v %d", s, names, from, p, f)
				}
			}
		}
		told[f]++
	}
	if told[api.OK] < 5 || told[api.ErrForm] < 5 || told[api.ErrSum] < 5 || told[api.ErrState] < 5 {
		t.Errorf("what is told: %v", told)
	}
}

func TestP2OnlyRead(t *testing.T) {
	full := birds()
	for i := range full.Data {
		full.Data[i] = append(full.Data[i], in(99))
	}
	is := api.Table{Cols: full.Cols}
	for _, l := range full.Data {
		is.Data = append(is.Data, l[:5])
	}
	names := []string{"seen", "id"}
	s, _ := file.Write(is, 2, 2)
	p, _ := file.Part(s, names, 1, 3)
	if !same(is, birds()) || full.Data[0][5] != in(99) || full.Data[1][5] != in(99) || full.Data[2][5] != in(99) {
		t.Error("a table, or the room behind its lists, was changed")
	}
	if names[0] != "seen" || names[1] != "id" {
		t.Error("names were changed")
	}
	clear(names)
	clear(is.Cols)
	for _, l := range full.Data {
		clear(l)
	}
	wantRead(t, s, birds(), api.OK)
	if !same(p, part(birds(), []string{"seen", "id"}, 1, 3)) {
		t.Errorf("Part kept what it was handed: %v", p)
	}
}

// spoil all of a table.
func spoil(is api.Table) {
	for i, l := range is.Data {
		l = l[:cap(l)]
		for at := range l {
			l[at] = tx("spoilt")
		}
		is.Cols[i] = txt("spoilt")
	}
}

func TestP2NewMemory(t *testing.T) {
	eachFile(func(is api.Table, per, group int, s string) {
		if per != 8 {
			return
		}
		groups, _ := groupsOf(is, per, group)
		_, g, _ := file.Foot(s)
		for i := range g {
			l := g[i].Sizes[:cap(g[i].Sizes)]
			clear(l)
			for j := i + 1; j < len(g); j++ {
				if !slices.Equal(g[j].Sizes, groups[j].Sizes) {
					t.Error("two groups share memory")
				}
			}
		}
		for i := range is.Data {
			read, _ := file.Read(s)
			some, _ := file.Part(s, []string{is.Cols[i].Name}, 0, 128)
			keep := read.Data[i]
			read.Data[i] = nil
			spoil(read)
			if !slices.Equal(keep, is.Data[i]) || !slices.Equal(some.Data[0], is.Data[i]) {
				t.Error("two lists share memory")
			}
			spoil(some)
		}
		wantRead(t, s, is, api.OK)
	})
	s := spelt(birds(), 2, 2)
	c, _, _ := file.Foot(s)
	clear(c)
	p, _ := file.Part(s, []string{"id", "seen"}, 0, 5)
	clear(p.Data[0][:cap(p.Data[0])])
	if !slices.Equal(p.Data[1], birds().Data[2]) {
		t.Error("two lists share memory")
	}
	wantRead(t, s, birds(), api.OK)
}

func TestP3SameAgain(t *testing.T) {
	is := most(6, 1, 60)
	s := spelt(is, 7, 20)
	groups, _ := groupsOf(is, 7, 20)
	names := []string{"ccccc", "a"}
	var all sync.WaitGroup
	for range 8 {
		all.Go(func() {
			for range 10 {
				file.Write(most(3, 2, 61), 5, 30)
				file.Write(birds(), 0, 0)
				file.Read(s[:len(s)-1])
				file.Foot(framed("", sealed("\x01")))
				wantWrite(t, is, 7, 20, s, api.OK)
				wantFoot(t, s, is.Cols, groups, api.OK)
				wantRead(t, s, is, api.OK)
				wantPart(t, s, names, 5, 40, part(is, names, 5, 40), api.OK)
			}
		})
	}
	all.Wait()
}

func TestP4LongOnes(t *testing.T) {
	rest := strings.Repeat("x", 1<<24)
	wantWrite(t, tab(cols(num("a")), make([]api.Cell, 1<<22)), 64, 128, "", api.ErrMany)
	wantWrite(t, tab(cols(txt("a")), of(tx(rest))), 64, 128, "", api.ErrMany)
	a := cols(num("a"))
	long := []api.Group{{Rows: 1, Sizes: []int{len(rest)}}}
	wantFoot(t, filed(a, long, rest), a, long, api.OK)
	wantPart(t, filed(a, long, rest), []string{"a"}, 1, 1, tab(a, nil), api.OK)
	wantRead(t, filed(a, long, rest), api.Table{}, api.ErrSum)
	wantWrong(t, rest, api.ErrForm)
	wantWrong(t, "COL1"+rest+"COL1", api.ErrForm)
	wantWrong(t, framed("", rest), api.ErrSum)
	wantWrong(t, framed("", sealed("\x00\x00"+rest)), api.ErrForm)
	wantWrong(t, framed(rest, sealed("\x00\x00")), api.ErrForm)
	one, _ := chunk.Write(api.Number, of(in(1)), 1)
	longer := filed(a, []api.Group{{Rows: 1, Sizes: []int{len(one) + len(rest)}}}, one+rest)
	wantRead(t, longer, api.Table{}, api.ErrState)
	wantPart(t, spelt(birds(), 2, 2), make([]string, 1<<20), 0, 1, api.Table{}, api.ErrNone)
	wantPart(t, spelt(birds(), 2, 2), slices.Repeat([]string{"id"}, 1<<20), 0, 1, api.Table{}, api.ErrTwice)
}
