package crew_test

import (
	"encoding/binary"
	"hash/adler32"
	"math"
	"runtime"
	"slices"
	"strings"
	"sync"
	"testing"
	"time"

	"hypostyle/api"
	"hypostyle/chunk"
	"hypostyle/crew"
	"hypostyle/file"
	"hypostyle/table"
	"hypostyle/vary"
)

// of: a list of cells.
func of(l ...api.Cell) []api.Cell { return l }

func in(n uint64) api.Cell { return api.Cell{Kind: api.Number, N: n} }
func tx(s string) api.Cell { return api.Cell{Kind: api.Text, S: s} }

// gone: a Null.
var gone api.Cell

func num(name string) api.Column { return api.Column{Name: name, Kind: api.Number} }
func txt(name string) api.Column { return api.Column{Name: name, Kind: api.Text} }

// cols: a list of columns.
func cols(l ...api.Column) []api.Column { return l }

// tab: a table of columns and their cells.
func tab(c []api.Column, data ...[]api.Cell) api.Table { return api.Table{Cols: c, Data: data} }

// birds: a table of three columns and five rows, each time another one.
func birds() api.Table {
	return tab(cols(num("id"), txt("name"), num("seen")),
		of(in(1), in(2), in(9), gone, in(5)),
		of(tx("rook"), gone, tx("wren"), tx("rook"), tx("")),
		of(in(7), in(7), gone, in(0), in(math.MaxUint64)))
}

// most: a table of so many columns and rows.
func most(columns, rows int) api.Table {
	var t api.Table
	for c := range columns {
		kind := api.Number + c%2
		var l []api.Cell
		for r := range rows {
			x := api.Cell{Kind: kind}
			switch {
			case (r*r+c)%7 == 0:
				x = gone
			case kind == api.Number:
				x.N = uint64(r*r+c) << (r % 40)
			default:
				x.S = strings.Repeat(string([]byte{byte(r), 'a' + byte(c)}), r%9)
			}
			l = append(l, x)
		}
		t.Cols = append(t.Cols, api.Column{Name: string([]byte{'a' + byte(c)}), Kind: kind})
		t.Data = append(t.Data, l)
	}
	return t
}

// tables of many sizes, each time others.
func tables() []api.Table {
	all := []api.Table{{}, birds()}
	for _, rows := range []int{0, 1, 2, 16, 17, 127, 128} {
		all = append(all, most(1, rows), most(2, rows), most(6, rows))
	}
	return all
}

// same tables? Lists without elements are the same, nil or not.
func same(a, b api.Table) bool {
	return slices.Equal(a.Cols, b.Cols) && slices.EqualFunc(a.Data, b.Data, slices.Equal[[]api.Cell])
}

// number: the bytes of one.
func number(n int) string { return vary.Write(uint64(n)) }

// four: a number as four bytes.
func four(n int) string { return string(binary.BigEndian.AppendUint32(nil, uint32(n))) }

// sealed: a body with its length and its sum, as the document tells it.
func sealed(body string) string {
	return number(len(body)) + body + four(int(adler32.Checksum([]byte(body))))
}

// filed: a file of chunks, so many of a group, of whose groups the foot says these rows.
func filed(c []api.Column, rows []int, chunks []string) string {
	body := number(len(c))
	for _, one := range c {
		body += string([]byte{byte(one.Kind)}) + number(len(one.Name)) + one.Name
	}
	body += number(len(rows))
	for at, many := range rows {
		body += number(many)
		for _, s := range chunks[at*len(c) : (at+1)*len(c)] {
			body += number(len(s))
		}
	}
	foot := sealed(body)
	return "COL1" + strings.Join(chunks, "") + foot + four(len(foot)) + "COL1"
}

// parts of a table's file: the rows of each group, and its chunks.
func parts(is api.Table, per, group int) ([]int, []string) {
	var rows []int
	var chunks []string
	all, _ := table.Rows(is)
	for from := 0; from < all; from += group {
		end := min(from+group, all)
		rows = append(rows, end-from)
		for c, l := range is.Data {
			s, _ := chunk.Write(is.Cols[c].Kind, l[from:end], per)
			chunks = append(chunks, s)
		}
	}
	return rows, chunks
}

func wantWrite(t *testing.T, is api.Table, per, group, workers int, s string, e api.Errno) {
	t.Helper()
	if gs, ge := crew.Write(is, per, group, workers); gs != s || ge != e {
		t.Errorf("Write(%v, %d, %d, %d) = %.200q %d, must be %.200q %d", is, per, group, workers, gs, ge, s, e)
	}
}

func wantRead(t *testing.T, s string, workers int, is api.Table, e api.Errno) {
	t.Helper()
	if g, ge := crew.Read(s, workers); !same(g, is) || ge != e {
		t.Errorf("Read(%.200q, %d) = %v %d, must be %v %d", s, workers, g, ge, is, e)
	}
}

func wantSums(t *testing.T, l []string, sums []uint32, e api.Errno) {
	t.Helper()
	if g, ge := crew.Sums(l); !slices.Equal(g, sums) || ge != e {
		t.Errorf("Sums(%.200q) = %x %d, must be %x %d", l, g, ge, sums, e)
	}
}

// wantReadAs: whoever reads, and however many they are, it is what file.Read tells.
func wantReadAs(t *testing.T, s string) api.Errno {
	t.Helper()
	is, e := file.Read(s)
	for workers := 1; workers <= api.MaxWorkers; workers++ {
		wantRead(t, s, workers, is, e)
	}
	return e
}

// sums of texts, as the library tells them.
func sums(l []string) []uint32 {
	var out []uint32
	for _, s := range l {
		out = append(out, adler32.Checksum([]byte(s)))
	}
	return out
}

func TestY1Write(t *testing.T) {
	for _, is := range tables() {
		for _, size := range [][2]int{{1, 1}, {1, 16}, {2, 2}, {3, 17}, {8, 128}, {64, 127}, {64, 128}} {
			s, e := file.Write(is, size[0], size[1])
			if e == api.OK {
				rows, chunks := parts(is, size[0], size[1])
				if s != filed(is.Cols, rows, chunks) {
					t.Fatalf("file.Write(%v, %v) = %q", is, size, s)
				}
			}
			for workers := 1; workers <= api.MaxWorkers; workers++ {
				wantWrite(t, is, size[0], size[1], workers, s, e)
			}
		}
	}
}

func TestY1WriteErrors(t *testing.T) {
	for _, c := range []struct {
		t          api.Table
		per, group int
		e          api.Errno
	}{
		{tab(cols(num("a"), num("a")), nil, nil), 0, 0, api.ErrTwice},
		{tab(make([]api.Column, 7)), 0, 0, api.ErrMany},
		{tab(cols(num("a"))), 1, 0, api.ErrForm},
		{tab(cols(num("a")), of(tx("x"))), 65, 129, api.ErrKind},
		{api.Table{}, 0, 1, api.ErrRange},
		{birds(), 1, 0, api.ErrRange},
		{birds(), 65, 1, api.ErrRange},
		{birds(), 1, 129, api.ErrRange},
		{birds(), math.MinInt, math.MaxInt, api.ErrRange},
		{most(1, 9), 1, 1, api.ErrMany},
		{most(1, 17), 1, 17, api.ErrMany},
	} {
		for _, workers := range []int{1, 2, 7, 8} {
			wantWrite(t, c.t, c.per, c.group, workers, "", c.e)
		}
	}
}

// How many workers there are is asked ahead of all else.
func TestY1Workers(t *testing.T) {
	s, _ := file.Write(birds(), 2, 2)
	for _, workers := range []int{math.MinInt, -8, -1, 0, 9, 10, math.MaxInt} {
		wantWrite(t, birds(), 2, 2, workers, "", api.ErrRange)
		wantWrite(t, tab(make([]api.Column, 7)), 2, 2, workers, "", api.ErrRange)
		wantWrite(t, most(1, 9), 1, 1, workers, "", api.ErrRange)
		wantRead(t, s, workers, api.Table{}, api.ErrRange)
		wantRead(t, "", workers, api.Table{}, api.ErrRange)
		wantRead(t, s[:len(s)-1], workers, api.Table{}, api.ErrRange)
	}
}

func TestY1Read(t *testing.T) {
	for _, is := range tables() {
		for _, size := range [][2]int{{1, 16}, {2, 2}, {3, 17}, {64, 128}} {
			s, e := file.Write(is, size[0], size[1])
			if e != api.OK {
				continue
			}
			for workers := 1; workers <= api.MaxWorkers; workers++ {
				wantRead(t, s, workers, is, api.OK)
			}
		}
	}
}

func TestY1ReadErrors(t *testing.T) {
	s, _ := file.Write(birds(), 2, 2)
	told := map[api.Errno]int{}
	for at := range len(s) {
		for _, wrong := range []string{s[:at], s[at+1:], s[:at] + s[at+1:], s[:at] + "\x00" + s[at:], s[:at] + string([]byte{s[at] ^ 1}) + s[at+1:]} {
			told[wantReadAs(t, wrong)]++
		}
	}
	if told[api.ErrForm] < 100 || told[api.ErrSum] < 100 || told[api.OK] > 0 {
		t.Errorf("what is told: %v", told)
	}
}

// wrongs: chunks with which something is wrong, each time something else.
func wrongs() map[api.Errno]string {
	longer, _ := chunk.Write(api.Number, of(in(1), in(2), in(3)), 2)
	damaged, _ := chunk.Write(api.Number, of(in(1), in(2)), 2)
	return map[api.Errno]string{
		api.ErrSum:   damaged[:len(damaged)-1] + string([]byte{damaged[len(damaged)-1] ^ 1}),
		api.ErrState: longer,
		api.ErrNone:  sealed(""),
		api.ErrKind:  sealed("\x03\x00"),
		api.ErrMany:  sealed("\x02\x11"),
		api.ErrForm:  sealed("\x02\x00\x00"),
	}
}

// Of two chunks with which something is wrong the first one tells, in the order of the
// file, whoever has it.
func TestY1FirstChunk(t *testing.T) {
	rows, chunks := parts(birds(), 2, 2)
	for first := range chunks {
		for one, wrong := range wrongs() {
			l := slices.Clone(chunks)
			l[first] = wrong
			if e := wantReadAs(t, filed(birds().Cols, rows, l)); e != one {
				t.Errorf("of chunk %d %d is told, must be %d", first, e, one)
			}
			for second := first + 1; second < len(chunks); second++ {
				for _, other := range wrongs() {
					l[second] = other
					if e := wantReadAs(t, filed(birds().Cols, rows, l)); e != one {
						t.Errorf("of chunks %d and %d %d is told, must be %d", first, second, e, one)
					}
				}
				l[second] = chunks[second]
			}
		}
	}
}

func TestY1Sums(t *testing.T) {
	wantSums(t, nil, nil, api.OK)
	wantSums(t, []string{"", "rook", "rookwren", ""}, []uint32{1, 0x046201bc, sums([]string{"rookwren"})[0], 1}, api.OK)
	var l []string
	for i := range api.MaxList {
		l = append(l, strings.Repeat(string([]byte{byte(255 - i)}), i*i*i))
		wantSums(t, l, sums(l), api.OK)
	}
	for _, many := range []int{65, 66, 1 << 20} {
		wantSums(t, make([]string, many), nil, api.ErrMany)
	}
}

// working: is somebody at work on a chunk, or on a sum?
func working() bool {
	b := make([]byte, 1<<20)
	s := string(b[:runtime.Stack(b, true)])
	return strings.Contains(s, "hypostyle/opened") || strings.Contains(s, "hypostyle/adler") || strings.Contains(s, "hypostyle/chunk")
}

// Of the first chunk something is told at once, while others are at work on the next
// ones for a while.
func TestY2Ended(t *testing.T) {
	long := sealed(strings.Repeat("x", 1<<24))
	s := filed(cols(num("a"), num("b"), num("c")), []int{1}, []string{"\x00\x00\x00\x00\x00", long, long})
	for workers := 1; workers <= api.MaxWorkers; workers++ {
		if _, e := crew.Read(s, workers); e != api.ErrSum {
			t.Errorf("Read by %d workers tells %d, must tell %d", workers, e, api.ErrSum)
		}
		if working() {
			t.Errorf("of %d workers somebody is still at work", workers)
		}
	}
}

// Behind many calls there are no more goroutines than ahead of them.
func TestY2Left(t *testing.T) {
	before := runtime.NumGoroutine()
	s, _ := file.Write(most(6, 128), 4, 16)
	for range 20 {
		for workers := -1; workers <= api.MaxWorkers+1; workers++ {
			crew.Write(most(6, 128), 4, 16, workers)
			crew.Write(most(6, 128), 1, 1, workers)
			crew.Read(s, workers)
			crew.Read(s[:9]+"\x00"+s[10:], workers)
			crew.Sums([]string{"a", s})
			crew.Sums(make([]string, 65))
		}
	}
	// Who has ended may need a moment until it is no longer counted.
	for range 1000 {
		if runtime.NumGoroutine() <= before {
			return
		}
		time.Sleep(time.Millisecond)
	}
	t.Errorf("there are %d goroutines, there were %d", runtime.NumGoroutine(), before)
}

// Whoever is faster, the answer is the same.
func TestY2SameOfAll(t *testing.T) {
	is := most(6, 128)
	s, _ := file.Write(is, 4, 16)
	rows, chunks := parts(is, 4, 16)
	chunks[20], chunks[21], chunks[40] = wrongs()[api.ErrKind], wrongs()[api.ErrForm], wrongs()[api.ErrSum]
	bad := filed(is.Cols, rows, chunks)
	texts := []string{s, "", bad, "a"}
	defer runtime.GOMAXPROCS(runtime.GOMAXPROCS(0))
	for _, at := range []int{1, 2, 8} {
		runtime.GOMAXPROCS(at)
		for range 5 {
			for workers := 1; workers <= api.MaxWorkers; workers++ {
				wantWrite(t, is, 4, 16, workers, s, api.OK)
				wantRead(t, s, workers, is, api.OK)
				wantRead(t, bad, workers, api.Table{}, api.ErrKind)
				wantSums(t, texts, sums(texts), api.OK)
			}
		}
	}
}

// Whatever a text is, it is told as file.Read tells it, and what is read is a table.
func TestP1Strange(t *testing.T) {
	s, _ := file.Write(most(2, 9), 2, 4)
	for at := range len(s) {
		for _, one := range []string{s[at:] + s[:at], s[:at] + "COL1", s[:at] + s, "COL1" + s[at:]} {
			wantReadAs(t, one)
			is, e := crew.Read(one, 1+at%8)
			if table.Check(is) != api.OK || e != api.OK && !same(is, api.Table{}) {
				t.Errorf("Read(%q) = %v %d", one, is, e)
			}
		}
	}
	for _, one := range []string{"", "COL1", "COL1COL1", "COL1\x00\x00\x00\x00COL1", filed(nil, nil, nil), filed(nil, []int{1}, nil)} {
		wantReadAs(t, one)
	}
}

func TestP2OnlyRead(t *testing.T) {
	full := birds()
	for i := range full.Data {
		full.Data[i] = append(full.Data[i], in(99))
	}
	is := api.Table{Cols: full.Cols}
	for _, l := range full.Data {
		is.Data = append(is.Data, l[:5])
	}
	texts := append([]string{"a", "b"}, "spare")
	s, e := crew.Write(is, 2, 2, 8)
	out, _ := crew.Sums(texts[:2])
	if !same(is, birds()) || full.Data[0][5] != in(99) || full.Data[1][5] != in(99) || full.Data[2][5] != in(99) || e != api.OK {
		t.Error("a table, or the room behind its lists, was changed")
	}
	if texts[0] != "a" || texts[1] != "b" || texts[2] != "spare" {
		t.Error("texts, or the room behind them, were changed")
	}
	clear(texts)
	clear(is.Cols)
	for _, l := range full.Data {
		clear(l)
	}
	wantRead(t, s, 8, birds(), api.OK)
	if !slices.Equal(out, sums([]string{"a", "b"})) {
		t.Errorf("Sums kept what it was handed: %x", out)
	}
}

// spoil all of a table, and the room behind it.
func spoil(is api.Table) {
	for i, l := range is.Data {
		l = l[:cap(l)]
		for at := range l {
			l[at] = tx("spoilt")
		}
		is.Cols[i] = txt("spoilt")
	}
}

func TestP2NewMemory(t *testing.T) {
	for _, is := range []api.Table{birds(), most(6, 60)} {
		s, _ := file.Write(is, 4, 16)
		for i := range is.Data {
			read, _ := crew.Read(s, 3)
			keep := read.Data[i]
			read.Data[i] = nil
			spoil(read)
			if !slices.Equal(keep, is.Data[i]) {
				t.Error("two lists share memory")
			}
		}
		wantRead(t, s, 3, is, api.OK)
	}
}

func TestP3SameAgain(t *testing.T) {
	is := most(6, 60)
	s, _ := file.Write(is, 7, 20)
	texts := []string{"rook", s, "wren"}
	var all sync.WaitGroup
	for i := range 8 {
		all.Go(func() {
			for range 20 {
				crew.Write(most(3, 61), 5, 30, 1+i)
				crew.Write(birds(), 0, 0, i)
				crew.Read(s[:len(s)-1], 8-i)
				crew.Sums([]string{"other"})
				wantWrite(t, is, 7, 20, 1+i, s, api.OK)
				wantRead(t, s, 8-i, is, api.OK)
				wantSums(t, texts, sums(texts), api.OK)
			}
		})
	}
	all.Wait()
}

func TestP4LongOnes(t *testing.T) {
	rest := strings.Repeat("x", 1<<24)
	wantWrite(t, tab(cols(num("a")), make([]api.Cell, 1<<22)), 64, 128, 8, "", api.ErrMany)
	wantWrite(t, tab(cols(txt("a")), of(tx(rest))), 64, 128, 8, "", api.ErrMany)
	wantRead(t, rest, 8, api.Table{}, api.ErrForm)
	wantRead(t, "COL1"+rest+"COL1", 8, api.Table{}, api.ErrForm)
	wantRead(t, filed(cols(num("a")), []int{1}, []string{rest}), 8, api.Table{}, api.ErrSum)
	wantSums(t, []string{rest, "", rest[1:]}, sums([]string{rest, "", rest[1:]}), api.OK)
}
