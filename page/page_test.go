package page_test

import (
	"encoding/binary"
	"hash/adler32"
	"math"
	"slices"
	"strings"
	"sync"
	"testing"

	"hypostyle/api"
	"hypostyle/codec"
	"hypostyle/nulls"
	"hypostyle/page"
	"hypostyle/rank"
	"hypostyle/vary"
)

// of: a list of cells.
func of(l ...api.Cell) []api.Cell { return l }

func in(n uint64) api.Cell { return api.Cell{Kind: api.Number, N: n} }
func tx(s string) api.Cell { return api.Cell{Kind: api.Text, S: s} }

// gone: a Null.
var gone api.Cell

// wide: a text of the most bytes.
var wide = strings.Repeat("w", api.MaxText)

// number: the bytes of one.
func number(n int) string { return vary.Write(uint64(n)) }

// sealed: a body with its length and its sum, as the document tells it.
func sealed(body string) string {
	sum := binary.BigEndian.AppendUint32(nil, adler32.Checksum([]byte(body)))
	return number(len(body)) + body + string(sum)
}

// thing: a cell of a kind, another one for each place.
func thing(kind, at int) api.Cell {
	if kind == api.Number {
		return in(uint64(at*at) * (math.MaxUint64 / 4096) >> (at % 5 * 13))
	}
	return tx((string([]byte{byte(at), byte(255 - at)}) + wide)[:at%17])
}

// sample: so many cells of a kind, of each seven so many are there.
func sample(kind, many, there int) []api.Cell {
	l := make([]api.Cell, many)
	for i := range l {
		if (i*i+many)%7 < there {
			l[i] = thing(kind, i)
		}
	}
	return l
}

// samples: lists of all lengths and of both kinds.
func samples() map[int][][]api.Cell {
	all := map[int][][]api.Cell{}
	for _, kind := range []int{api.Number, api.Text} {
		for many := range api.MaxList + 1 {
			for _, there := range []int{0, 1, 4, 7} {
				all[kind] = append(all[kind], sample(kind, many, there))
			}
			all[kind] = append(all[kind], slices.Repeat(of(thing(kind, 3)), many))
		}
	}
	return all
}

// body of a page, the cells that are there by the best way, as the document tells it.
func body(kind int, l []api.Cell) string {
	marks := make([]bool, len(l))
	var numbers []uint64
	var texts []string
	for at, c := range l {
		if c.Kind != api.Null {
			marks[at] = true
			numbers, texts = append(numbers, c.N), append(texts, c.S)
		}
	}
	s := string([]byte{byte(kind)}) + number(len(l)) + number(len(numbers))
	if len(numbers) < len(l) {
		b, _ := rank.Bytes(marks)
		s += b
	}
	if len(numbers) == 0 {
		return s
	}
	way, _ := codec.BestNumbers(numbers)
	if kind == api.Text {
		way, _ = codec.BestTexts(texts)
	}
	return s + way
}

func wantWrite(t *testing.T, kind int, l []api.Cell, s string, e api.Errno) {
	t.Helper()
	if gs, ge := page.Write(kind, l); gs != s || ge != e {
		t.Errorf("Write(%d, %v) = %x %d, must be %x %d", kind, l, gs, ge, s, e)
	}
}

func wantRead(t *testing.T, s string, kind int, l []api.Cell, size int, e api.Errno) {
	t.Helper()
	gk, gl, gs, ge := page.Read(s)
	if gk != kind || !slices.Equal(gl, l) || gs != size || ge != e {
		t.Errorf("Read(%.80x) = %d %v %d %d, must be %d %v %d %d", s, gk, gl, gs, ge, kind, l, size, e)
	}
}

// wantWrong: a text is read with an error, whatever stands behind it.
func wantWrong(t *testing.T, s string, e api.Errno) {
	t.Helper()
	for _, rest := range []string{"", "z", strings.Repeat("\x00", 100)} {
		wantRead(t, s+rest, 0, nil, 0, e)
	}
}

// pages as they are written.
var pages = []struct {
	kind int
	l    []api.Cell
	body string
}{
	{api.Number, nil, "\x01\x00\x00"},
	{api.Text, nil, "\x02\x00\x00"},
	{api.Number, of(gone), "\x01\x01\x00\x00"},
	{api.Text, of(gone), "\x02\x01\x00\x00"},
	{api.Number, of(gone, gone, gone), "\x01\x03\x00\x00"},
	{api.Text, make([]api.Cell, 8), "\x02\x08\x00\x00"},
	{api.Text, make([]api.Cell, 9), "\x02\x09\x00\x00\x00"},
	{api.Number, make([]api.Cell, 64), "\x01\x40\x00\x00\x00\x00\x00\x00\x00\x00\x00"},
	{api.Number, of(in(5)), "\x01\x01\x01\x01\x03\x05"},
	{api.Number, of(in(0)), "\x01\x01\x01\x01\x00"},
	{api.Number, of(in(5), gone, in(7)), "\x01\x03\x02\x05\x01\x03\x3d"},
	{api.Number, slices.Repeat(of(in(9)), 8), "\x01\x08\x08\x02\x04\x10\x09"},
	{api.Number, append(make([]api.Cell, 8), in(5)), "\x01\x09\x01\x00\x01\x01\x03\x05"},
	{api.Text, of(tx("")), "\x02\x01\x01\x05\x00"},
	{api.Text, of(gone, tx("ab")), "\x02\x02\x01\x02\x05\x02ab"},
	{api.Text, of(tx("rook"), gone, tx("rook"), tx("wren")), "\x02\x04\x03\x0d\x06\x02\x04\x00\x04rook\x00\x04wren"},
	{api.Text, of(tx("rook"), tx("rooks")), "\x02\x02\x02\x07\x00\x04rook\x04\x01s"},
}

func TestQ1Write(t *testing.T) {
	wantWrite(t, api.Number, nil, "\x03\x01\x00\x00\x00\x06\x00\x02", api.OK)
	wantWrite(t, api.Text, of(gone), "\x04\x02\x01\x00\x00\x00\x0f\x00\x04", api.OK)
	for _, p := range pages {
		wantWrite(t, p.kind, p.l, sealed(p.body), api.OK)
	}
}

func TestQ1WriteEach(t *testing.T) {
	long := false
	for kind, lists := range samples() {
		for _, l := range lists {
			s := sealed(body(kind, l))
			long = long || len(s) > 500
			wantWrite(t, kind, l, s, api.OK)
		}
	}
	if !long {
		t.Error("no page is long")
	}
}

func TestQ1Errors(t *testing.T) {
	long := tx(wide + "w")
	for _, c := range []struct {
		kind int
		l    []api.Cell
		e    api.Errno
	}{
		{api.Null, nil, api.ErrKind},
		{3, nil, api.ErrKind},
		{-1, nil, api.ErrKind},
		{257, of(in(1)), api.ErrKind},
		{math.MinInt, make([]api.Cell, 65), api.ErrKind},
		{api.Number, make([]api.Cell, 65), api.ErrMany},
		{api.Text, append(of(in(1)), make([]api.Cell, 64)...), api.ErrMany},
		{api.Number, of(in(1), tx("a")), api.ErrKind},
		{api.Text, of(gone, in(1)), api.ErrKind},
		{api.Number, of(api.Cell{Kind: 3}), api.ErrKind},
		{api.Number, of(api.Cell{N: 1}), api.ErrForm},
		{api.Text, of(api.Cell{S: "a"}), api.ErrForm},
		{api.Number, of(api.Cell{Kind: api.Number, S: "a"}), api.ErrForm},
		{api.Text, of(long), api.ErrMany},
		{api.Text, of(long, in(1)), api.ErrMany},
		{api.Text, of(in(1), long), api.ErrKind},
	} {
		if e := nulls.Check(c.kind, c.l); e != c.e {
			t.Errorf("Check(%d, %v) = %d, must be %d", c.kind, c.l, e, c.e)
		}
		wantWrite(t, c.kind, c.l, "", c.e)
	}
}

func TestQ2Read(t *testing.T) {
	for _, p := range pages {
		s := sealed(p.body)
		for _, rest := range []string{"", "z", s, "\xff\xff", strings.Repeat("\x00", 100)} {
			wantRead(t, s+rest, p.kind, p.l, len(s), api.OK)
		}
	}
}

// What is written is read as it was.
func TestQ2AsItWas(t *testing.T) {
	for kind, lists := range samples() {
		for _, l := range lists {
			s, e := page.Write(kind, l)
			if e != api.OK {
				t.Errorf("Write(%d, %v) has error %d", kind, l, e)
			}
			wantRead(t, s, kind, l, len(s), api.OK)
			wantRead(t, s+s, kind, l, len(s), api.OK)
		}
	}
}

// Cells may stand there by a way that is not the best one.
func TestQ2ByWhateverWay(t *testing.T) {
	l := of(in(300), gone, in(5), in(5), gone)
	for way := api.Packed; way <= api.Patch; way++ {
		b, _ := codec.Numbers([]uint64{300, 5, 5}, way)
		s := sealed("\x01\x05\x03\x0d" + b)
		wantRead(t, s, api.Number, l, len(s), api.OK)
		wantWrong(t, sealed("\x02\x05\x03\x0d"+b), api.ErrKind)
	}
	l = of(gone, tx("rook"), tx(wide), gone, tx("rook"))
	for way := api.Plain; way <= api.Front; way++ {
		b, _ := codec.Texts([]string{"rook", wide, "rook"}, way)
		s := sealed("\x02\x05\x03\x16" + b)
		wantRead(t, s, api.Text, l, len(s), api.OK)
		wantWrong(t, sealed("\x01\x05\x03\x16"+b), api.ErrKind)
	}
}

func TestQ2Length(t *testing.T) {
	eight := strings.Repeat("\xff", 8)
	good := "\x01\x00\x00\x00\x06\x00\x02"
	for _, c := range []struct {
		s string
		e api.Errno
	}{
		{"", api.ErrNone},
		{"\x80", api.ErrNone},
		{"\x80\x03" + good, api.ErrForm},
		{"\xff" + eight, api.ErrNone},
		{"\xff\x7f" + eight[1:] + good, api.ErrNone},
		{"\xff\x80\x00\x00\x00\x00\x00\x00\x00" + good, api.ErrNone},
		{"\x04" + good, api.ErrNone},
		{"\x03" + good[:6], api.ErrNone},
		{"\x00\x00\x00\x00", api.ErrNone},
		{"\x00\x00\x00\x00\x00", api.ErrSum},
		{"\x00\x00\x00\x00\x01", api.ErrNone}, // the body is empty
		{"\x02" + good, api.ErrSum},
	} {
		wantRead(t, c.s, 0, nil, 0, c.e)
	}
}

func TestQ2CutShort(t *testing.T) {
	for _, p := range pages {
		s := sealed(p.body)
		for c := range len(s) {
			wantRead(t, s[:c], 0, nil, 0, api.ErrNone)
		}
	}
}

// Each body is wrong in one way, or the first one that the promise names tells.
func TestQ2Body(t *testing.T) {
	for _, c := range []struct {
		body string
		e    api.Errno
	}{
		{"", api.ErrNone},
		// The kind.
		{"\x00", api.ErrKind},
		{"\x00\x00\x00", api.ErrKind},
		{"\x03\x00\x00", api.ErrKind},
		{"\xff\x80", api.ErrKind},
		// How many cells.
		{"\x01", api.ErrNone},
		{"\x01\x80", api.ErrNone},
		{"\x02\x80\x05", api.ErrForm},
		{"\x01\x41", api.ErrMany},
		{"\x01\x41\x80", api.ErrMany},
		{"\x02\xff\xff\xff\xff\xff\xff\xff\xff\xff\x00", api.ErrMany},
		{"\x02\xff\x80\x00\x00\x00\x00\x00\x00\x00\x00", api.ErrMany},
		// How many are there.
		{"\x01\x02", api.ErrNone},
		{"\x01\x02\xc0\x00", api.ErrNone},
		{"\x01\x02\x80\x01", api.ErrForm},
		{"\x01\x02\x03", api.ErrState},
		{"\x01\x00\x01", api.ErrState},
		{"\x01\x40\x41\x01", api.ErrState},
		{"\x02\x40\xff\xff\xff\xff\xff\xff\xff\xff\xff", api.ErrState},
		{"\x02\x40\xff\x80\x00\x00\x00\x00\x00\x00\x01", api.ErrState},
		// Which ones.
		{"\x01\x02\x01", api.ErrNone},
		{"\x01\x02\x00", api.ErrNone},
		{"\x01\x09\x01\x01", api.ErrNone},
		{"\x01\x40\x01\x01\x00\x00\x00\x00\x00\x00", api.ErrNone},
		{"\x01\x02\x01\x05\x01\x00", api.ErrForm},
		{"\x01\x02\x01\x04\x01\x00", api.ErrForm},
		{"\x01\x02\x00\x04", api.ErrForm},
		{"\x01\x09\x01\x01\x02\x01\x00", api.ErrForm},
		{"\x01\x02\x01\x03\x01\x00", api.ErrForm},
		{"\x01\x02\x01\x00\x01\x00", api.ErrForm},
		{"\x02\x02\x00\x01", api.ErrForm},
		{"\x01\x02\x01\x03", api.ErrForm},
		// None is there, but something is left.
		{"\x01\x00\x00\x00", api.ErrForm},
		{"\x02\x00\x00\x05", api.ErrForm},
		{"\x01\x01\x00\x00\x00", api.ErrForm},
		{"\x02\x40\x00\x00\x00\x00\x00\x00\x00\x00\x00\x05", api.ErrForm},
		// Those that are there.
		{"\x01\x01\x01", api.ErrNone},
		{"\x01\x02\x01\x01", api.ErrNone},
		{"\x01\x01\x01\x05\x00", api.ErrKind},
		{"\x02\x01\x01\x01\x00", api.ErrKind},
		{"\x02\x01\x01\x08\x00", api.ErrKind},
		{"\x01\x01\x01\x01\x41", api.ErrRange},
		{"\x01\x01\x01\x01\x03\x08", api.ErrForm},
		{"\x01\x01\x01\x01\x04\x07", api.ErrForm},
		{"\x01\x01\x01\x01\x03\x05\x00", api.ErrForm},
		{"\x01\x02\x01\x01\x01\x03\x3d", api.ErrForm},
		{"\x01\x01\x01\x02\x03\x20\x05", api.ErrMany},
		{"\x01\x02\x02\x03\x05\x00\x80\x02", api.ErrForm},
		{"\x01\x01\x01\x04\xff\xff\xff\xff\xff\xff\xff\xff\xff\x01\x00\x01", api.ErrOver},
		{"\x02\x01\x01\x05\x11" + wide + "w", api.ErrMany},
		{"\x02\x01\x01\x05\x02a", api.ErrNone},
		{"\x02\x01\x01\x05\x00\x00", api.ErrForm},
		{"\x02\x03\x03\x06\x03\x3f\x00\x01a\x00\x01b\x00\x01c", api.ErrRange},
		{"\x02\x01\x01\x06\x02\x00\x00\x01b\x00\x01a", api.ErrState},
		{"\x02\x01\x01\x07\x01\x00", api.ErrRange},
	} {
		wantWrong(t, sealed(c.body), c.e)
		// Its sum is looked at ahead of it.
		wrong := []byte(sealed(c.body))
		wrong[len(wrong)-1] ^= 1
		wantWrong(t, string(wrong), api.ErrSum)
	}
}

// Each mark that is changed is seen, even by a right sum.
func TestQ2EachMark(t *testing.T) {
	for many := range api.MaxList + 1 {
		l := sample(api.Number, many, 4)
		b := body(api.Number, l)
		if len(b) < 3+(many+7)/8 || b[1] == b[2] {
			continue
		}
		for bit := range (many + 7) / 8 * 8 {
			wrong := []byte(b)
			wrong[3+bit/8] ^= 1 << (bit % 8)
			wantWrong(t, sealed(string(wrong)), api.ErrForm)
		}
	}
}

// long: the longest pages of each kind.
func long() []string {
	var l []string
	for _, kind := range []int{api.Number, api.Text} {
		s, _ := page.Write(kind, sample(kind, api.MaxList, 7))
		l = append(l, s)
	}
	return l
}

// head: how many bytes the length of a page has.
func head(s string) int {
	_, k, _ := vary.Read(s)
	return k
}

func TestQ3Changed(t *testing.T) {
	all := long()
	for _, p := range pages {
		all = append(all, sealed(p.body))
	}
	for _, s := range all {
		for at := head(s); at < len(s); at++ {
			wrong := []byte(s)
			for range 255 {
				wrong[at]++
				wantRead(t, string(wrong), 0, nil, 0, api.ErrSum)
			}
		}
	}
}

func TestQ3ChangedAbout(t *testing.T) {
	all := long()
	for kind, lists := range samples() {
		for _, l := range lists {
			s, _ := page.Write(kind, l)
			all = append(all, s)
		}
	}
	for _, s := range all {
		for at := head(s) + 1; at < len(s); at++ {
			if s[at-1] == s[at] {
				continue
			}
			wrong := []byte(s)
			wrong[at-1], wrong[at] = s[at], s[at-1]
			wantRead(t, string(wrong), 0, nil, 0, api.ErrSum)
		}
	}
}

// strange: bodies of whatever bytes.
func strange() []string {
	out := []string{"", strings.Repeat("\xff", 300), strings.Repeat("\x00", 300)}
	for kind := range 4 {
		for way := range 9 {
			for i := range 1 << 11 {
				out = append(out, string([]byte{byte(kind), byte(i % 3), byte(i % 4), byte(i >> 9), byte(way), byte(i % 5), byte(i >> 3), byte(i >> 2)}[:8-i%3]))
			}
		}
		out = append(out, string([]byte{byte(kind), 64, 64})+strings.Repeat("\x01", 300), string([]byte{byte(kind), 64, 1})+strings.Repeat("\x00", 300))
	}
	return out
}

// What is read of a strange page is written so that it is read again; all else is
// nothing but an error.
func TestP1Strange(t *testing.T) {
	read := 0
	for _, b := range strange() {
		for _, s := range []string{b, sealed(b), sealed(b) + b} {
			kind, l, size, e := page.Read(s)
			if e != api.OK {
				wantRead(t, s, 0, nil, 0, e)
				continue
			}
			read++
			if size > len(s) || nulls.Check(kind, l) != api.OK {
				t.Errorf("Read(%x) = %d %v %d", s, kind, l, size)
			}
			again, _ := page.Write(kind, l)
			wantRead(t, again, kind, l, len(again), api.OK)
		}
	}
	if read < 100 {
		t.Errorf("%d strange pages are read", read)
	}
	for _, kind := range []int{math.MinInt, -1, 0, 1, 2, 3, 256, 257, math.MaxInt} {
		for _, c := range []api.Cell{gone, in(math.MaxUint64), tx("\x00\xff"), {N: 1}, {S: "a"}, {Kind: -1}, {Kind: math.MaxInt, N: 1, S: wide + "w"}} {
			if s, e := page.Write(kind, of(c)); e != nulls.Check(kind, of(c)) || (e == api.OK) == (s == "") {
				t.Errorf("Write(%d, %v) = %x %d", kind, c, s, e)
			}
		}
	}
}

func TestP2OnlyRead(t *testing.T) {
	for _, kind := range []int{api.Number, api.Text} {
		l := sample(kind, 40, 4)
		was := slices.Clone(l)
		s, _ := page.Write(kind, l[:20])
		if !slices.Equal(l, was) {
			t.Error("a list, or the room behind it, was changed")
		}
		clear(l)
		wantRead(t, s, kind, was[:20], len(s), api.OK)
	}
}

func TestP2NewMemory(t *testing.T) {
	for kind, lists := range samples() {
		for _, l := range lists {
			s, _ := page.Write(kind, l)
			_, first, _, _ := page.Read(s)
			_, second, _, _ := page.Read(s)
			clear(first[:cap(first)])
			if !slices.Equal(second, l) {
				t.Error("two answers share memory")
			}
		}
	}
}

func TestP3SameAgain(t *testing.T) {
	var all sync.WaitGroup
	for range 8 {
		all.Go(func() {
			for range 20 {
				page.Write(3, nil)
				page.Write(api.Text, sample(api.Text, 61, 5))
				page.Read(sealed("\x01\x02\x01\x03"))
				for _, p := range pages {
					wantWrite(t, p.kind, p.l, sealed(p.body), api.OK)
					wantRead(t, sealed(p.body), p.kind, p.l, len(sealed(p.body)), api.OK)
				}
			}
		})
	}
	all.Wait()
}

func TestP4LongOnes(t *testing.T) {
	wantManyCells := func(kind int, l []api.Cell) {
		if s, e := page.Write(kind, l); s != "" || e != api.ErrMany {
			t.Errorf("Write of a long list has error %d", e)
		}
	}
	rest := strings.Repeat("x", 1<<24)
	wantManyCells(api.Number, make([]api.Cell, 1<<22))
	wantManyCells(api.Text, of(tx(rest)))
	for _, p := range pages {
		s := sealed(p.body)
		wantRead(t, s+rest, p.kind, p.l, len(s), api.OK)
	}
	for b, e := range map[string]api.Errno{"": api.ErrKind, "\x01": api.ErrMany, "\x01\x00\x00": api.ErrForm, "\x01\x01\x01\x01": api.ErrRange, "\x02\x01\x01\x05": api.ErrMany, "\x02\x02\x01\x01\x05\x00": api.ErrForm, "\x02\x01\x01\x06\x01\x00\x00\x01a": api.ErrForm} {
		wantRead(t, sealed(b+rest), 0, nil, 0, e)
	}
}
