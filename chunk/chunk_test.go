package chunk_test

import (
	"encoding/binary"
	"hash/adler32"
	"math"
	"slices"
	"strings"
	"sync"
	"testing"

	"hypostyle/api"
	"hypostyle/bloom"
	"hypostyle/chunk"
	"hypostyle/nulls"
	"hypostyle/page"
	"hypostyle/stats"
	"hypostyle/vary"
)

// of: a list of cells.
func of(l ...api.Cell) []api.Cell { return l }

func in(n uint64) api.Cell { return api.Cell{Kind: api.Number, N: n} }
func tx(s string) api.Cell { return api.Cell{Kind: api.Text, S: s} }

// gone: a Null.
var gone api.Cell

// wide: a text of the most bytes.
var wide = strings.Repeat("w", api.MaxText)

// number: the bytes of one.
func number(n int) string { return vary.Write(uint64(n)) }

// sealed: a body with its length and its sum, as the document tells it.
func sealed(body string) string {
	sum := binary.BigEndian.AppendUint32(nil, adler32.Checksum([]byte(body)))
	return number(len(body)) + body + string(sum)
}

// cell: one of a head, as the document tells it.
func cell(c api.Cell) string {
	switch c.Kind {
	case api.Number:
		return "\x01" + vary.Write(c.N)
	case api.Text:
		return "\x02" + number(len(c.S)) + c.S
	}
	return "\x00"
}

// words: the bytes of a filter.
func words(f [4]uint64) string {
	var b []byte
	for _, word := range f {
		b = binary.BigEndian.AppendUint64(b, word)
	}
	return string(b)
}

// zone: what a head says of a page.
func zone(z api.Zone) string {
	return number(z.Size) + number(z.Known.Rows) + number(z.Known.Nulls) + cell(z.Known.Least) + cell(z.Known.Most) + words(z.Filter)
}

// body of a head.
func body(kind int, zones ...api.Zone) string {
	s := string([]byte{byte(kind)}) + number(len(zones))
	for _, z := range zones {
		s += zone(z)
	}
	return s
}

// paged: a page, and what is known of it.
func paged(kind int, l []api.Cell) (string, api.Zone) {
	s, _ := page.Write(kind, l)
	known, _ := stats.Of(kind, l)
	return s, api.Zone{Size: len(s), Known: known, Filter: bloom.Of(l)}
}

// cutBy: what is known of each page of a column, and all pages.
func cutBy(kind int, l []api.Cell, per int) ([]api.Zone, []string) {
	var zones []api.Zone
	var pages []string
	for len(l) > 0 {
		many := min(per, len(l))
		s, z := paged(kind, l[:many])
		zones, pages, l = append(zones, z), append(pages, s), l[many:]
	}
	return zones, pages
}

// spelt: a column as a chunk, as the document tells it.
func spelt(kind int, l []api.Cell, per int) string {
	zones, pages := cutBy(kind, l, per)
	return sealed(body(kind, zones...)) + strings.Join(pages, "")
}

// sample: so many cells of a kind, of each seven so many are there.
func sample(kind, many, there int) []api.Cell {
	l := make([]api.Cell, many)
	for i := range l {
		if (i*i+many)%7 >= there {
			continue
		}
		l[i] = in(uint64(i*i+1) * (math.MaxUint64 / 65536) >> (i % 5 * 13))
		if kind == api.Text {
			l[i] = tx((string([]byte{byte(i * 3), byte(255 - i)}) + wide)[:i%17])
		}
	}
	return l
}

// samples: lists of many lengths and of both kinds.
func samples() map[int][][]api.Cell {
	all := map[int][][]api.Cell{}
	for _, kind := range []int{api.Number, api.Text} {
		for _, many := range []int{0, 1, 2, 3, 7, 8, 9, 15, 16, 17, 31, 63, 64, 65, 100, 127, 128} {
			for _, there := range []int{0, 1, 4, 7} {
				all[kind] = append(all[kind], sample(kind, many, there))
			}
		}
	}
	return all
}

// pers: cells of a page.
func pers() []int { return []int{1, 2, 3, 4, 5, 7, 8, 9, 16, 31, 63, 64} }

// fits: may so many cells be written in pages of so many?
func fits(many, per int) bool { return (many+per-1)/per <= api.MaxPages }

// eachChunk hands on many columns, and how they are written.
func eachChunk(hand func(kind int, l []api.Cell, per int, s string)) {
	for kind, lists := range samples() {
		for _, l := range lists {
			for _, per := range pers() {
				if fits(len(l), per) {
					hand(kind, l, per, spelt(kind, l, per))
				}
			}
		}
	}
}

func wantWrite(t *testing.T, kind int, l []api.Cell, per int, s string, e api.Errno) {
	t.Helper()
	if gs, ge := chunk.Write(kind, l, per); gs != s || ge != e {
		t.Errorf("Write(%d, %v, %d) = %x %d, must be %x %d", kind, l, per, gs, ge, s, e)
	}
}

func wantHead(t *testing.T, s string, kind int, zones []api.Zone, size int, e api.Errno) {
	t.Helper()
	gk, gz, gs, ge := chunk.Head(s)
	if gk != kind || !slices.Equal(gz, zones) || gs != size || ge != e {
		t.Errorf("Head(%.80x) = %d %v %d %d, must be %d %v %d %d", s, gk, gz, gs, ge, kind, zones, size, e)
	}
}

func wantRead(t *testing.T, s string, kind int, l []api.Cell, size int, e api.Errno) {
	t.Helper()
	gk, gl, gs, ge := chunk.Read(s)
	if gk != kind || !slices.Equal(gl, l) || gs != size || ge != e {
		t.Errorf("Read(%.80x) = %d %v %d %d, must be %d %v %d %d", s, gk, gl, gs, ge, kind, l, size, e)
	}
}

func wantPart(t *testing.T, s string, from, many int, l []api.Cell, e api.Errno) {
	t.Helper()
	if gl, ge := chunk.Part(s, from, many); !slices.Equal(gl, l) || ge != e {
		t.Errorf("Part(%.80x, %d, %d) = %v %d, must be %v %d", s, from, many, gl, ge, l, e)
	}
}

// wantWrong: whoever opens a text tells that its head is wrong, ahead of all else.
func wantWrong(t *testing.T, s string, e api.Errno) {
	t.Helper()
	wantHead(t, s, 0, nil, 0, e)
	wantRead(t, s, 0, nil, 0, e)
	wantPart(t, s, 0, 1, nil, e)
	wantPart(t, s, -1, -1, nil, e)
}

func TestR1Write(t *testing.T) {
	wantWrite(t, api.Number, nil, 1, "\x02\x01\x00\x00\x04\x00\x02", api.OK)
	wantWrite(t, api.Text, nil, 64, "\x02\x02\x00\x00\x06\x00\x03", api.OK)
	first, a := paged(api.Number, of(in(1), in(2)))
	second, b := paged(api.Number, of(in(9)))
	wantWrite(t, api.Number, of(in(1), in(2), in(9)), 2, sealed(body(api.Number, a, b))+first+second, api.OK)
	first, a = paged(api.Text, of(tx("rook"), gone))
	second, b = paged(api.Text, of(tx("wren"), gone))
	wantWrite(t, api.Text, of(tx("rook"), gone, tx("wren"), gone), 2, sealed(body(api.Text, a, b))+first+second, api.OK)
	one, a := paged(api.Number, make([]api.Cell, 64))
	wantWrite(t, api.Number, make([]api.Cell, 128), 64, sealed(body(api.Number, a, a))+one+one, api.OK)
}

func TestR1WriteEach(t *testing.T) {
	eachChunk(func(kind int, l []api.Cell, per int, s string) {
		wantWrite(t, kind, l, per, s, api.OK)
	})
}

func TestR1Errors(t *testing.T) {
	long := tx(wide + "w")
	behind := func(c ...api.Cell) []api.Cell { return append(make([]api.Cell, 100), c...) }
	for _, c := range []struct {
		kind int
		l    []api.Cell
		per  int
		e    api.Errno
	}{
		// The kind, whatever else is wrong.
		{api.Null, nil, 1, api.ErrKind},
		{3, nil, 0, api.ErrKind},
		{-1, make([]api.Cell, 129), 0, api.ErrKind},
		{257, of(in(1)), 1, api.ErrKind},
		{math.MaxInt, behind(long), 1, api.ErrKind},
		// Too many cells, whatever they are.
		{api.Number, make([]api.Cell, 129), 64, api.ErrMany},
		{api.Number, append(behind(tx("a")), make([]api.Cell, 28)...), 0, api.ErrMany},
		// Each cell, be there more of them than a list may have.
		{api.Number, of(in(1), tx("a")), 1, api.ErrKind},
		{api.Text, of(in(1)), 0, api.ErrKind},
		{api.Number, of(api.Cell{Kind: 3}), 65, api.ErrKind},
		{api.Number, behind(tx("a")), 64, api.ErrKind},
		{api.Number, behind(api.Cell{N: 1}), 64, api.ErrForm},
		{api.Number, behind(api.Cell{Kind: api.Number, S: "a"}), 64, api.ErrForm},
		{api.Text, behind(api.Cell{S: "a"}), 0, api.ErrForm},
		{api.Text, behind(long), -1, api.ErrMany},
		{api.Text, behind(long), 1, api.ErrMany},
		// The first cell of which something is wrong tells.
		{api.Text, behind(long, in(1)), 64, api.ErrMany},
		{api.Text, behind(in(1), long, api.Cell{N: 1}), 64, api.ErrKind},
		{api.Text, behind(api.Cell{N: 1}, in(1)), 64, api.ErrForm},
		// How many cells a page has.
		{api.Number, nil, 0, api.ErrRange},
		{api.Number, nil, -1, api.ErrRange},
		{api.Text, nil, 65, api.ErrRange},
		{api.Text, nil, math.MaxInt, api.ErrRange},
		{api.Number, of(in(1)), math.MinInt, api.ErrRange},
		{api.Number, make([]api.Cell, 128), 0, api.ErrRange},
		// How many pages there would be.
		{api.Number, make([]api.Cell, 17), 1, api.ErrMany},
		{api.Number, make([]api.Cell, 33), 2, api.ErrMany},
		{api.Number, make([]api.Cell, 113), 7, api.ErrMany},
		{api.Text, make([]api.Cell, 128), 7, api.ErrMany},
		{api.Text, make([]api.Cell, 128), 1, api.ErrMany},
	} {
		wantWrite(t, c.kind, c.l, c.per, "", c.e)
	}
	for many := range api.MaxRows + 1 {
		for per := 1; per <= api.MaxList; per++ {
			l := make([]api.Cell, many)
			if !fits(many, per) {
				wantWrite(t, api.Text, l, per, "", api.ErrMany)
			} else if many%10 == 0 || many == per*api.MaxPages {
				wantWrite(t, api.Text, l, per, spelt(api.Text, l, per), api.OK)
			}
		}
	}
}

// What is known of one page, to the byte.
func TestR2OnePage(t *testing.T) {
	f := bloom.Of(of(in(300), gone, in(5)))
	wantWrite(t, api.Number, of(in(300), gone, in(5)), 3, sealed("\x01\x01"+"\x0e\x03\x01"+"\x01\x05"+"\x01\x81\x2c"+words(f))+"\x09\x01\x03\x02\x05\x01\x09\x2c\x0b\x00\x01\x19\x00\x4d", api.OK)
	f = bloom.Of(of(tx("wren"), tx("")))
	got, _ := chunk.Write(api.Text, of(tx("wren"), tx("")), 64)
	if want := "\x02\x01" + "\x0f\x02\x00" + "\x02\x00" + "\x02\x04wren" + words(f); !strings.HasPrefix(got, sealed(want)) {
		t.Errorf("the head is %x, must be %x", got, sealed(want))
	}
	got, _ = chunk.Write(api.Text, of(gone), 1)
	f = bloom.Of(of(gone))
	if want := "\x02\x01" + "\x09\x01\x01" + "\x00" + "\x00" + words(f); !strings.HasPrefix(got, sealed(want)) {
		t.Errorf("the head is %x, must be %x", got, sealed(want))
	}
}

func TestR3Head(t *testing.T) {
	eachChunk(func(kind int, l []api.Cell, per int, s string) {
		zones, _ := cutBy(kind, l, per)
		size := len(sealed(body(kind, zones...)))
		wantHead(t, s, kind, zones, size, api.OK)
		wantHead(t, s[:size], kind, zones, size, api.OK)
		wantHead(t, s[:size]+"\xff", kind, zones, size, api.OK)
	})
}

// A head may say what no chunk that is written has.
func TestR3HeadAlone(t *testing.T) {
	full := [4]uint64{math.MaxUint64, 0, 1, 1 << 63}
	none := api.Zone{}
	most := api.Zone{Size: api.MaxSize, Known: api.Stats{Rows: 128, Nulls: 127, Least: in(0), Most: in(math.MaxUint64)}, Filter: full}
	texts := api.Zone{Size: 1, Known: api.Stats{Rows: 2, Least: tx(""), Most: tx(wide)}, Filter: full}
	for _, c := range []struct {
		kind  int
		zones []api.Zone
	}{
		{api.Number, nil},
		{api.Text, nil},
		{api.Number, []api.Zone{none}},
		{api.Number, []api.Zone{most, none, {Filter: full}}},
		{api.Text, []api.Zone{none, texts, {Known: api.Stats{Rows: 126, Nulls: 126}}}},
		{api.Text, slices.Repeat([]api.Zone{texts}, api.MaxPages)},
		{api.Text, slices.Repeat([]api.Zone{none}, api.MaxPages)},
	} {
		s := sealed(body(c.kind, c.zones...))
		wantHead(t, s, c.kind, c.zones, len(s), api.OK)
		wantHead(t, s+"z", c.kind, c.zones, len(s), api.OK)
		for at := range len(s) {
			wantWrong(t, s[:at], api.ErrNone)
			if at >= len(s)-4 {
				wantWrong(t, s[:at]+string([]byte{s[at] + 1})+s[at+1:], api.ErrSum)
			}
		}
	}
}

func TestR3Length(t *testing.T) {
	good := "\x01\x00\x00\x04\x00\x02"
	wantHead(t, "\x02"+good, api.Number, nil, 7, api.OK)
	for _, c := range []struct {
		s string
		e api.Errno
	}{
		{"", api.ErrNone},
		{"\x80", api.ErrNone},
		{"\x80\x02" + good, api.ErrForm},
		{"\xff\xff\xff\xff\xff\xff\xff\xff\xff" + good, api.ErrNone},
		{"\xff\x7f\xff\xff\xff\xff\xff\xff\xff" + good, api.ErrNone},
		{"\x03" + good, api.ErrNone},
		{"\x01" + good, api.ErrSum},
		{"\x02" + good[:5], api.ErrNone},
		{"\x00\x00\x00\x00\x00", api.ErrSum},
		{"\x00\x00\x00\x00\x01", api.ErrNone}, // the body is empty
	} {
		wantWrong(t, c.s, c.e)
	}
}

// Each body is wrong in one way, or the first one that the promise names tells.
func TestR3Body(t *testing.T) {
	f := words([4]uint64{1, 2, 3, 4})
	huge := "\xff\xff\xff\xff\xff\xff\xff\xff\xff"
	over := number(api.MaxSize + 1)
	good := "\x09\x02\x00\x01\x05\x01\x07" + f
	for _, c := range []struct {
		body string
		e    api.Errno
	}{
		{"", api.ErrNone},
		{"\x00\x00", api.ErrKind},
		{"\x03", api.ErrKind},
		{"\xff\x80", api.ErrKind},
		// How many pages.
		{"\x01", api.ErrNone},
		{"\x02\xc0\x00", api.ErrNone},
		{"\x01\x80\x01", api.ErrForm},
		{"\x01\x11", api.ErrMany},
		{"\x01\x11" + strings.Repeat(good, 17), api.ErrMany},
		{"\x01" + huge, api.ErrMany},
		{"\x01\xff\x80\x00\x00\x00\x00\x00\x00\x01", api.ErrMany},
		// Three numbers.
		{"\x01\x01", api.ErrNone},
		{"\x01\x01\x80", api.ErrNone},
		{"\x01\x01\x80\x09\x02\x00", api.ErrForm},
		{"\x01\x01" + over, api.ErrMany},
		{"\x01\x01" + huge, api.ErrMany},
		{"\x01\x01\x09", api.ErrNone},
		{"\x01\x01\x09\x80\x02\x00", api.ErrForm},
		{"\x01\x01\x09" + over, api.ErrMany},
		{"\x01\x01\x09\x02", api.ErrNone},
		{"\x01\x01\x09\x02\x80\x00", api.ErrForm},
		{"\x01\x01\x09\x02" + over, api.ErrMany},
		{"\x01\x01\x09\x02" + huge, api.ErrMany},
		{"\x01\x01" + over + "\x80\x00", api.ErrMany},
		{"\x01\x01\x80\x00" + over, api.ErrForm},
		// Two cells.
		{"\x01\x01\x09\x02\x00", api.ErrNone},
		{"\x01\x01\x09\x02\x00\x03\x05\x01\x07" + f, api.ErrKind},
		{"\x01\x01\x09\x02\x00\xff", api.ErrKind},
		{"\x01\x01\x09\x02\x00\x01", api.ErrNone},
		{"\x01\x01\x09\x02\x00\x01\x80", api.ErrNone},
		{"\x01\x01\x09\x02\x00\x01\x80\x05\x01\x07" + f, api.ErrForm},
		{"\x01\x01\x09\x02\x00\x01\x05", api.ErrNone},
		{"\x01\x01\x09\x02\x00\x01\x05\x04", api.ErrKind},
		{"\x01\x01\x09\x02\x00\x01\x05\x01\x80\x07" + f, api.ErrForm},
		{"\x02\x01\x09\x02\x00\x02", api.ErrNone},
		{"\x02\x01\x09\x02\x00\x02\x80\x01a", api.ErrForm},
		{"\x02\x01\x09\x02\x00\x02\x11", api.ErrMany},
		{"\x02\x01\x09\x02\x00\x02\x11" + wide + "w\x02\x11" + wide + "w" + f, api.ErrMany},
		{"\x02\x01\x09\x02\x00\x02" + huge, api.ErrMany},
		{"\x02\x01\x09\x02\x00\x02\x05rook", api.ErrNone},
		{"\x02\x01\x09\x02\x00\x02\x04rook", api.ErrNone},
		{"\x02\x01\x09\x02\x00\x02\x04rook\x02\x04wre", api.ErrNone},
		// The filter.
		{"\x01\x01\x09\x02\x00\x01\x05\x01\x07", api.ErrNone},
		{"\x01\x01\x09\x02\x00\x01\x05\x01\x07" + f[:31], api.ErrNone},
		{"\x01\x01\x09\x02\x00\x01\x07\x01\x05" + f[:8], api.ErrNone},
		{"\x01\x01\x09\x02\x03\x00\x00" + f[:24], api.ErrNone},
		// What may be known of a column of that kind.
		{"\x01\x01\x09\x80\x81\x00\x01\x05\x01\x07" + f, api.ErrRange},
		{"\x01\x01\x09\xc0\x40\x00\x00\x01\x05\x01\x07" + f, api.ErrRange},
		{"\x01\x01\x09\x02\x03\x01\x05\x01\x07" + f, api.ErrRange},
		{"\x01\x01\x09\x02\x03\x02\x00\x02\x00" + f, api.ErrRange},
		{"\x01\x01\x09\x02\x00\x02\x00\x02\x00" + f, api.ErrKind},
		{"\x02\x01\x09\x02\x00\x01\x05\x01\x07" + f, api.ErrKind},
		{"\x01\x01\x09\x02\x00\x01\x05\x02\x00" + f, api.ErrKind},
		{"\x01\x01\x09\x02\x00\x00\x00" + f, api.ErrState},
		{"\x01\x01\x09\x02\x01\x01\x05\x00" + f, api.ErrState},
		{"\x01\x01\x09\x02\x02\x01\x05\x01\x07" + f, api.ErrState},
		{"\x01\x01\x09\x00\x00\x01\x05\x01\x07" + f, api.ErrState},
		{"\x01\x01\x09\x02\x00\x01\x07\x01\x05" + f, api.ErrState},
		{"\x02\x01\x09\x02\x00\x02\x01b\x02\x01a" + f, api.ErrState},
		// Page by page: the first one of which something is wrong tells.
		{"\x01\x02" + good, api.ErrNone},
		{"\x01\x02" + good + "\x80\x00", api.ErrForm},
		{"\x01\x02\x09\x02\x00\x01\x07\x01\x05" + f + "\x80\x00", api.ErrState},
		{"\x01\x02" + good + good[:len(good)-1], api.ErrNone},
		// Something is left.
		{"\x01\x00\x00", api.ErrForm},
		{"\x02\x00\x80", api.ErrForm},
		{"\x01\x01" + good + "\x00", api.ErrForm},
		{"\x01\x01" + good + good, api.ErrForm},
		// Too many rows in all.
		{"\x01\x02\x09\x80\x80\x00\x01\x05\x01\x07" + f + "\x09\x01\x01\x00\x00" + f, api.ErrMany},
		{"\x01\x02\x09\x80\x80\x00\x01\x05\x01\x07" + f + "\x09\x01\x01\x00\x00" + f + "\x00", api.ErrForm},
		{"\x01\x10" + strings.Repeat("\x09\x80\x80\x00\x01\x05\x01\x07"+f, 16), api.ErrMany},
	} {
		wantWrong(t, sealed(c.body), c.e)
		wantWrong(t, sealed(c.body)+"z", c.e)
		// Its sum is looked at ahead of it.
		wrong := []byte(sealed(c.body))
		wrong[len(wrong)-1] ^= 1
		wantWrong(t, string(wrong), api.ErrSum)
	}
	s := sealed("\x01\x02" + "\x09\x80\x80\x00\x01\x05\x01\x07" + f + "\x09\x00\x00\x00\x00" + f)
	if _, zones, size, e := chunk.Head(s); len(zones) != 2 || size != len(s) || e != api.OK {
		t.Errorf("Head of just so many rows is %v %d %d", zones, size, e)
	}
}

// One byte of a head changed, or two changed about, is seen.
func TestR3Changed(t *testing.T) {
	s := spelt(api.Text, sample(api.Text, 20, 4), 5)
	_, _, size, _ := chunk.Head(s)
	for at := 2; at < size; at++ {
		for _, more := range []byte{1, 2, 16, 128, 255} {
			wantWrong(t, s[:at]+string([]byte{s[at] + more})+s[at+1:], api.ErrSum)
		}
		if at > 2 && s[at-1] != s[at] {
			wantWrong(t, s[:at-1]+string([]byte{s[at], s[at-1]})+s[at+1:], api.ErrSum)
		}
	}
}

// What is written is read as it was.
func TestR4AsItWas(t *testing.T) {
	for kind, lists := range samples() {
		for _, l := range lists {
			for per := 1; per <= api.MaxList; per++ {
				s, e := chunk.Write(kind, l, per)
				if !fits(len(l), per) {
					continue
				}
				if e != api.OK {
					t.Errorf("Write(%d, %v, %d) has error %d", kind, l, per, e)
				}
				wantRead(t, s, kind, l, len(s), api.OK)
				wantRead(t, s+"z", kind, l, len(s), api.OK)
			}
		}
	}
}

// Pages need not be of equally many cells, and may be without any.
func TestR4AnyPages(t *testing.T) {
	var zones []api.Zone
	var all []api.Cell
	pages := ""
	for _, many := range []int{0, 3, 0, 1, 64, 60, 0} {
		l := sample(api.Number, many, 5)
		s, z := paged(api.Number, l)
		zones, pages, all = append(zones, z), pages+s, append(all, l...)
	}
	s := sealed(body(api.Number, zones...)) + pages
	wantRead(t, s, api.Number, all, len(s), api.OK)
	wantRead(t, s+s, api.Number, all, len(s), api.OK)
	for from := range 130 {
		for _, many := range []int{0, 1, 3, 4, 5, 64, 200} {
			wantPart(t, s, from, many, all[min(from, 128):min(from+many, 128)], api.OK)
		}
	}
}

func TestR4CutShort(t *testing.T) {
	for kind, lists := range samples() {
		l := lists[21]
		s := spelt(kind, l, 4)
		for at := range len(s) {
			wantRead(t, s[:at], 0, nil, 0, api.ErrNone)
		}
	}
}

// One byte of a page changed, or two changed about, is seen.
func TestR4Changed(t *testing.T) {
	s := spelt(api.Text, sample(api.Text, 20, 4), 20)
	_, _, size, _ := chunk.Head(s)
	_, k, _ := vary.Read(s[size:])
	for at := size + k; at < len(s); at++ {
		for _, more := range []byte{1, 2, 16, 128, 255} {
			wantRead(t, s[:at]+string([]byte{s[at] + more})+s[at+1:], 0, nil, 0, api.ErrSum)
		}
		if at > size+k && s[at-1] != s[at] {
			wantRead(t, s[:at-1]+string([]byte{s[at], s[at-1]})+s[at+1:], 0, nil, 0, api.ErrSum)
		}
	}
}

// A head that says something else of a page than what that has.
func TestR4State(t *testing.T) {
	l := of(in(5), gone, in(300), in(7))
	s, good := paged(api.Number, l)
	wantRead(t, sealed(body(api.Number, good))+s, api.Number, l, len(sealed(body(api.Number, good)))+len(s), api.OK)
	change := func(how func(z *api.Zone)) api.Zone {
		z := good
		how(&z)
		return z
	}
	for _, z := range []api.Zone{
		change(func(z *api.Zone) { z.Size++ }),
		change(func(z *api.Zone) { z.Size-- }),
		change(func(z *api.Zone) { z.Size = 0 }),
		change(func(z *api.Zone) { z.Size = api.MaxSize }),
		change(func(z *api.Zone) { z.Known.Rows++ }),
		change(func(z *api.Zone) { z.Known.Rows-- }),
		change(func(z *api.Zone) { z.Known.Nulls++ }),
		change(func(z *api.Zone) { z.Known.Nulls-- }),
		change(func(z *api.Zone) { z.Known.Least = in(4) }),
		change(func(z *api.Zone) { z.Known.Least = in(6) }),
		change(func(z *api.Zone) { z.Known.Most = in(299) }),
		change(func(z *api.Zone) { z.Known.Most = in(301) }),
		change(func(z *api.Zone) { z.Known = api.Stats{Rows: 4, Nulls: 4} }),
		change(func(z *api.Zone) { z.Known = api.Stats{Rows: 128, Nulls: 1, Least: in(5), Most: in(300)} }),
		change(func(z *api.Zone) { z.Filter = bloom.None() }),
		change(func(z *api.Zone) { z.Filter = bloom.Add(z.Filter, in(8)) }),
		change(func(z *api.Zone) { z.Filter[3] ^= 1 }),
		change(func(z *api.Zone) { z.Filter[0] ^= 1 << 63 }),
	} {
		wrong := sealed(body(api.Number, z)) + s
		wantHead(t, wrong, api.Number, []api.Zone{z}, len(sealed(body(api.Number, z))), api.OK)
		wantRead(t, wrong, 0, nil, 0, api.ErrState)
		wantRead(t, wrong+"z", 0, nil, 0, api.ErrState)
		wantPart(t, wrong, 0, 1, nil, api.ErrState)
		wantPart(t, wrong, 0, 0, nil, api.OK)
		// What is wrong with the page itself tells ahead of that.
		wantRead(t, wrong[:len(wrong)-1], 0, nil, 0, api.ErrNone)
		wantPart(t, wrong[:len(wrong)-1]+"\xff", 0, 1, nil, api.ErrSum)
	}
}

// Nulls are known alike in columns of both kinds, so that nothing but the page's own
// kind tells.
func TestR4OtherKind(t *testing.T) {
	for _, many := range []int{0, 1, 5} {
		s, z := paged(api.Text, make([]api.Cell, many))
		wantRead(t, sealed(body(api.Number, z))+s, 0, nil, 0, api.ErrState)
		head := sealed(body(api.Text, z))
		wantRead(t, head+s, api.Text, make([]api.Cell, many), len(head+s), api.OK)
	}
	s, _ := paged(api.Text, of(tx("a")))
	_, z := paged(api.Number, of(in(1)))
	wantRead(t, sealed(body(api.Number, z))+s, 0, nil, 0, api.ErrState)
	wantPart(t, sealed(body(api.Number, z))+s, 0, 1, nil, api.ErrState)
}

// Page by page: the first one of which something is wrong tells; what is wrong with
// it by itself comes ahead of what the head says.
func TestR4FirstPage(t *testing.T) {
	good, z := paged(api.Number, of(in(5)))
	state, _ := paged(api.Number, of(in(6)))
	sum := good[:len(good)-1] + "\xff"
	kind := sealed("\x03\x00\x00")
	for _, c := range []struct {
		pages string
		e     api.Errno
	}{
		{good + good, api.OK},
		{state + sum, api.ErrState},
		{sum + state, api.ErrSum},
		{good + kind, api.ErrKind},
		{kind + sum, api.ErrKind},
		{good + sum, api.ErrSum},
		{good + state, api.ErrState},
		{good, api.ErrNone},
		{"", api.ErrNone},
		{state, api.ErrState},
		{sealed("\x01\x41"), api.ErrMany},
		{sealed("\x01\x01\x01\x01\x41"), api.ErrRange},
	} {
		s := sealed(body(api.Number, z, z)) + c.pages
		if c.e == api.OK {
			wantRead(t, s, api.Number, of(in(5), in(5)), len(s), api.OK)
			wantPart(t, s, 0, 2, of(in(5), in(5)), api.OK)
			continue
		}
		wantRead(t, s, 0, nil, 0, c.e)
		wantPart(t, s, 0, 2, nil, c.e)
	}
}

// A page of more cells than a list may have is none, though a head may say so.
func TestR4LongPage(t *testing.T) {
	z := api.Zone{Size: 15, Known: api.Stats{Rows: 65, Nulls: 65}}
	s := sealed(body(api.Number, z)) + sealed("\x01\x41\x00"+strings.Repeat("\x00", 9))
	wantRead(t, s, 0, nil, 0, api.ErrMany)
	wantPart(t, s, 64, 1, nil, api.ErrMany)
}

func TestR5Part(t *testing.T) {
	eachChunk(func(kind int, l []api.Cell, per int, s string) {
		for _, from := range []int{0, 1, 2, 5, 8, 63, 64, 65, len(l) - 1, len(l), len(l) + 1, math.MaxInt} {
			for _, many := range []int{0, 1, 2, 5, 64, 127, 128, 200, math.MaxInt} {
				if from < 0 {
					continue
				}
				first := min(from, len(l))
				wantPart(t, s, from, many, l[first:first+min(many, len(l)-first)], api.OK)
			}
		}
	})
}

func TestR5Range(t *testing.T) {
	l := sample(api.Number, 10, 5)
	s := spelt(api.Number, l, 3)
	_, _, size, _ := chunk.Head(s)
	for _, c := range [][2]int{{-1, 0}, {-1, 5}, {0, -1}, {3, -1}, {math.MinInt, 1}, {1, math.MinInt}, {math.MinInt, math.MinInt}, {-1, math.MaxInt}, {math.MaxInt, -1}} {
		wantPart(t, s, c[0], c[1], nil, api.ErrRange)
		// Ahead of what is wrong with pages.
		wantPart(t, s[:size], c[0], c[1], nil, api.ErrRange)
	}
}

// Only pages in which one of the cells lies are read: what is wrong with others is
// not seen.
func TestR5ThesePagesAlone(t *testing.T) {
	for _, kind := range []int{api.Number, api.Text} {
		l := sample(kind, 22, 5)
		zones, pages := cutBy(kind, l, 4)
		head := sealed(body(kind, zones...))
		for from := range 24 {
			for many := range 24 {
				end := min(from+many, len(l))
				for at := range pages {
					wrong := slices.Clone(pages)
					wrong[at] = strings.Repeat("\x00", len(pages[at]))
					s := head + strings.Join(wrong, "")
					if from < end && 4*at < end && from < 4*at+4 {
						wantPart(t, s, from, many, nil, api.ErrSum)
						continue
					}
					wantPart(t, s, from, many, l[min(from, end):end], api.OK)
				}
			}
		}
	}
}

// A text may end ahead of a page that is not asked for.
func TestR5CutShort(t *testing.T) {
	l := sample(api.Text, 22, 5)
	s := spelt(api.Text, l, 4)
	_, zones, size, _ := chunk.Head(s)
	for cut := size; cut <= len(s); cut++ {
		whole, end := 0, size
		for _, z := range zones {
			if end += z.Size; end <= cut {
				whole += z.Known.Rows
			}
		}
		for from := range 24 {
			for _, many := range []int{0, 1, 4, 9, 40} {
				last := min(from+many, len(l))
				if from < last && last > whole {
					wantPart(t, s[:cut], from, many, nil, api.ErrNone)
					continue
				}
				wantPart(t, s[:cut], from, many, l[min(from, last):last], api.OK)
			}
		}
	}
}

// What a head says of a page that is not read is believed: where the next one begins,
// and which of its cells is the first one.
func TestR5Beyond(t *testing.T) {
	p, z := paged(api.Number, of(in(5)))
	far := z
	far.Size = api.MaxSize
	s := sealed(body(api.Number, far, z)) + p
	wantPart(t, s, 1, 1, nil, api.ErrNone)
	wantPart(t, s, 0, 1, nil, api.ErrState)
	wantPart(t, s, 0, 2, nil, api.ErrState)
	wantPart(t, s, 2, 2, nil, api.OK)
	wantPart(t, s, 1, 0, nil, api.OK)
	wantPart(t, s+strings.Repeat("x", api.MaxSize-len(p))+p, 1, 1, of(in(5)), api.OK)
	none := api.Zone{Known: api.Stats{Rows: 100, Nulls: 100}}
	s = sealed(body(api.Number, none, z)) + p
	wantPart(t, s, 100, 28, of(in(5)), api.OK)
	wantPart(t, s, 99, 2, nil, api.ErrState)
}

// A page without cells is not read for a part.
func TestR5NoCells(t *testing.T) {
	p, z := paged(api.Number, of(in(5)))
	none := api.Zone{Size: 3}
	s := sealed(body(api.Number, none, z, none)) + "\xff\xff\xff" + p
	wantPart(t, s, 0, 5, of(in(5)), api.OK)
	wantRead(t, s, 0, nil, 0, api.ErrNone)
}

// strange: bodies of heads of whatever bytes.
func strange() []string {
	out := []string{"", strings.Repeat("\xff", 300), strings.Repeat("\x00", 300), strings.Repeat("\x01", 300)}
	f := words([4]uint64{5, 6, 7, 8})
	for i := range 1 << 14 {
		head := string([]byte{byte(i % 4), byte(i >> 2 % 3), byte(i >> 12), byte(i >> 4 % 4), byte(i >> 3 % 3)})
		out = append(out, head+string([]byte{byte(i >> 6 % 4), byte(i >> 8 % 4), byte(i >> 10 % 4), byte(i % 5), byte(i % 3)}[:5-i%4])+f[:32-i%37/36])
		out = append(out, string([]byte{byte(1 + i%2), 1, byte(i >> 4 & 63), byte(i >> 1 % 4), byte(i >> 3 % 4), byte(i >> 2 % 3), 1, byte(i >> 10 % 3), 2}[:6+i>>12])+f)
	}
	return out
}

// What is read of a strange head is written so that it is read again; all else is
// nothing but an error.
func TestP1Strange(t *testing.T) {
	read := 0
	for _, b := range strange() {
		for _, s := range []string{b, sealed(b), sealed(b) + sealed("\x01\x00\x00"), sealed(b) + b} {
			kind, zones, size, e := chunk.Head(s)
			if e != api.OK {
				wantWrong(t, s, e)
				continue
			}
			read++
			if sealed(body(kind, zones...)) != s[:size] {
				t.Errorf("Head(%x) = %d %v %d", s, kind, zones, size)
			}
			k, l, end, f := chunk.Read(s)
			if f != api.OK {
				wantRead(t, s, 0, nil, 0, f)
			} else if k != kind || end > len(s) || nulls.Check(kind, l) != api.OK {
				t.Errorf("Read(%x) = %d %v %d", s, k, l, end)
			}
			for _, from := range []int{math.MinInt, -1, 0, 1, 2, 128, math.MaxInt} {
				for _, many := range []int{math.MinInt, -1, 0, 1, 2, 128, math.MaxInt} {
					if p, g := chunk.Part(s, from, many); g != api.OK && len(p) != 0 || from < 0 != (g == api.ErrRange) && many >= 0 {
						t.Errorf("Part(%x, %d, %d) = %v %d", s, from, many, p, g)
					}
				}
			}
		}
	}
	if read < 100 {
		t.Errorf("%d strange heads are read", read)
	}
	for _, kind := range []int{math.MinInt, -1, 0, 1, 2, 3, 256, 257, math.MaxInt} {
		for _, c := range []api.Cell{gone, in(math.MaxUint64), tx("\x00\xff"), {N: 1}, {S: "a"}, {Kind: -1}, {Kind: math.MaxInt, N: 1, S: wide + "w"}} {
			if s, e := chunk.Write(kind, of(c), 1); e != nulls.Check(kind, of(c)) || (e == api.OK) == (s == "") {
				t.Errorf("Write(%d, %v, 1) = %x %d", kind, c, s, e)
			}
		}
	}
}

func TestP2OnlyRead(t *testing.T) {
	for _, kind := range []int{api.Number, api.Text} {
		l := sample(kind, 40, 4)
		was := slices.Clone(l)
		s, _ := chunk.Write(kind, l[:20], 3)
		if !slices.Equal(l, was) {
			t.Error("a list, or the room behind it, was changed")
		}
		clear(l)
		wantRead(t, s, kind, was[:20], len(s), api.OK)
	}
}

func TestP2NewMemory(t *testing.T) {
	eachChunk(func(kind int, l []api.Cell, per int, s string) {
		_, first, _, _ := chunk.Read(s)
		_, second, _, _ := chunk.Read(s)
		part, _ := chunk.Part(s, 0, len(l))
		clear(first[:cap(first)])
		if !slices.Equal(second, l) || !slices.Equal(part, l) {
			t.Error("two answers share memory")
		}
		clear(part[:cap(part)])
		_, zones, _, _ := chunk.Head(s)
		_, others, size, _ := chunk.Head(s)
		clear(zones[:cap(zones)])
		if !slices.Equal(second, l) || sealed(body(kind, others...)) != s[:size] {
			t.Error("two answers share memory")
		}
	})
}

func TestP3SameAgain(t *testing.T) {
	l := sample(api.Text, 60, 4)
	s := spelt(api.Text, l, 7)
	_, zones, size, _ := chunk.Head(s)
	var all sync.WaitGroup
	for range 8 {
		all.Go(func() {
			for range 20 {
				chunk.Write(api.Number, sample(api.Number, 61, 4), 5)
				chunk.Write(3, nil, 0)
				chunk.Read(s[:len(s)-1])
				chunk.Head(sealed("\x01\x01\x80\x00"))
				wantWrite(t, api.Text, l, 7, s, api.OK)
				wantHead(t, s, api.Text, zones, size, api.OK)
				wantRead(t, s, api.Text, l, len(s), api.OK)
				wantPart(t, s, 5, 30, l[5:35], api.OK)
			}
		})
	}
	all.Wait()
}

func TestP4LongOnes(t *testing.T) {
	rest := strings.Repeat("x", 1<<24)
	for _, l := range [][]api.Cell{make([]api.Cell, 1<<22), of(tx(rest))} {
		if s, e := chunk.Write(api.Text, l, 64); s != "" || e != api.ErrMany {
			t.Errorf("Write of a long column has error %d", e)
		}
	}
	l := sample(api.Text, 100, 4)
	s := spelt(api.Text, l, 50)
	wantRead(t, s+rest, api.Text, l, len(s), api.OK)
	wantPart(t, s+rest, 40, 20, l[40:60], api.OK)
	for b, e := range map[string]api.Errno{"": api.ErrKind, "\x01": api.ErrMany, "\x01\x00": api.ErrForm, "\x01\x01\x00\x00\x00": api.ErrKind, "\x01\x01\x00\x00\x00\x00\x00": api.ErrForm} {
		wantWrong(t, sealed(b+rest), e)
	}
}
