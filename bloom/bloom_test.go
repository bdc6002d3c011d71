package bloom_test

import (
	"encoding/binary"
	"hash/fnv"
	"math"
	"slices"
	"strings"
	"sync"
	"testing"

	"hypostyle/api"
	"hypostyle/bloom"
)

// of: a list of cells.
func of(l ...api.Cell) []api.Cell { return l }

func in(n uint64) api.Cell { return api.Cell{Kind: api.Number, N: n} }
func tx(s string) api.Cell { return api.Cell{Kind: api.Text, S: s} }

// gone: a Null.
var gone api.Cell

// full: a filter of all marks.
var full = [4]uint64{math.MaxUint64, math.MaxUint64, math.MaxUint64, math.MaxUint64}

// cells of all kinds, and such as no column has.
func cells() []api.Cell {
	l := of(gone, tx(""), tx("a"), tx("b"), tx("ab"), tx("ba"), tx("rook"), tx("wren"), tx("\x00"), tx("\x00\x00"), tx("\xff"), tx("é"), tx(strings.Repeat("w", 5000)))
	for shift := range 64 {
		l = append(l, in(1<<shift), in(1<<shift-1))
	}
	for _, kind := range []int{math.MinInt, -257, -256, -255, -1, 0, 1, 2, 3, 255, 256, 257, 258, 1 << 32, math.MaxInt} {
		l = append(l, api.Cell{Kind: kind}, api.Cell{Kind: kind, N: 5}, api.Cell{Kind: kind, S: "rook"}, api.Cell{Kind: kind, N: math.MaxUint64, S: "\xff"})
	}
	for n := range 200 {
		l = append(l, in(uint64(n)*0x9e3779b97f4a7c15))
	}
	return l
}

// hashed: the hash of a cell's bytes.
func hashed(c api.Cell) uint64 {
	h := fnv.New64a()
	h.Write([]byte{byte(c.Kind)})
	h.Write(binary.BigEndian.AppendUint64(nil, c.N))
	h.Write([]byte(c.S))
	return h.Sum64()
}

// places of the marks of a cell.
func places(c api.Cell) [3]uint64 {
	h := hashed(c)
	return [3]uint64{h % 256, h / (1 << 20) % 256, h / (1 << 40) % 256}
}

// marked: the filter of the marks of cells, as the document tells it.
func marked(l ...api.Cell) [4]uint64 {
	var marks [256]bool
	for _, c := range l {
		for _, at := range places(c) {
			marks[at] = true
		}
	}
	var f [4]uint64
	for at, mark := range marks {
		if mark {
			f[at/64] += 1 << (at % 64)
		}
	}
	return f
}

// marks: how many a filter has.
func marks(f [4]uint64) int {
	many := 0
	for at := range 256 {
		many += int(f[at/64] >> (at % 64) % 2)
	}
	return many
}

// without: a filter but for one mark.
func without(f [4]uint64, at uint64) [4]uint64 {
	f[at/64] &^= 1 << (at % 64)
	return f
}

func wantHash(t *testing.T, c api.Cell, n uint64) {
	t.Helper()
	if g := bloom.Hash(c); g != n {
		t.Errorf("Hash(%v) = %016x, must be %016x", c, g, n)
	}
}

func wantFilter(t *testing.T, what string, g, f [4]uint64) {
	t.Helper()
	if g != f {
		t.Errorf("%s is %x, must be %x", what, g, f)
	}
}

func wantMay(t *testing.T, f [4]uint64, c api.Cell, may bool) {
	t.Helper()
	if g := bloom.May(f, c); g != may {
		t.Errorf("May(%x, %v) = %v, must be %v", f, c, g, may)
	}
}

func TestM1Hash(t *testing.T) {
	for _, c := range []struct {
		c api.Cell
		n uint64
	}{
		{gone, 0xe604823a249029bf},
		{in(0), 0x529a2cdc8ff533ac},
		{in(5), 0x529a29dc8ff52e93},
		{in(math.MaxUint64), 0x685cd83ad34b3424},
		{tx(""), 0x0cd92cf54dc615e5},
		{tx("a"), 0x9b1ce8d327968f4c},
		{tx("rook"), 0x485d600ba6565568},
		{api.Cell{Kind: 258, N: 1, S: "x"}, 0x9b19fbd3279479be},
		{api.Cell{Kind: -1}, 0x2032dd643620252e},
	} {
		wantHash(t, c.c, c.n)
	}
}

func TestM1HashEach(t *testing.T) {
	for _, c := range cells() {
		wantHash(t, c, hashed(c))
	}
}

// Of Kind just what it is modulo 256 counts, of N and S all.
func TestM1WhatCounts(t *testing.T) {
	for _, kind := range []int{0, 1, 2, 7, 255} {
		for _, more := range []int{256, -256, 1 << 40, -1 << 62} {
			wantHash(t, api.Cell{Kind: kind + more, N: 3, S: "a"}, bloom.Hash(api.Cell{Kind: kind, N: 3, S: "a"}))
		}
	}
	all := map[uint64]api.Cell{}
	for _, c := range cells() {
		c.Kind &= 255
		if other, ok := all[bloom.Hash(c)]; ok && other != c {
			t.Errorf("%v and %v have one hash", c, other)
		}
		all[bloom.Hash(c)] = c
	}
}

func TestM2None(t *testing.T) {
	wantFilter(t, "None", bloom.None(), [4]uint64{})
	wantFilter(t, "Of nothing", bloom.Of(nil), [4]uint64{})
	wantFilter(t, "Of an empty list", bloom.Of(of()), [4]uint64{})
	for _, c := range cells() {
		wantMay(t, bloom.None(), c, false)
	}
}

func TestM2Add(t *testing.T) {
	// The hash is e604823a249029bf: marks 191, 73 and 130.
	wantFilter(t, "a Null", bloom.Add(bloom.None(), gone), [4]uint64{0, 1 << 9, 1<<63 | 1<<2, 0})
	// The hash is 529a2cdc8ff533ac: marks 172, 255 and 44.
	wantFilter(t, "0", bloom.Add(bloom.None(), in(0)), [4]uint64{1 << 44, 0, 1 << 44, 1 << 63})
	f, all := bloom.None(), cells()
	for i, c := range all {
		wantFilter(t, "a cell alone", bloom.Add(bloom.None(), c), marked(c))
		wantFilter(t, "a cell more where all is", bloom.Add(full, c), full)
		f = bloom.Add(f, c)
		wantFilter(t, "a cell more", f, marked(all[:i+1]...))
		wantFilter(t, "a cell again", bloom.Add(f, c), f)
	}
}

func TestM2Of(t *testing.T) {
	all := cells()
	for i := range all {
		wantFilter(t, "Of a list", bloom.Of(all[:i]), marked(all[:i]...))
		wantFilter(t, "Of one cell twice", bloom.Of(of(all[i], all[i])), marked(all[i]))
		if i+5 <= len(all) {
			some := slices.Clone(all[i : i+5])
			slices.Reverse(some)
			wantFilter(t, "Of a list, from behind", bloom.Of(some), marked(all[i:i+5]...))
		}
	}
}

// A cell whose marks are two of three alike is there by those two.
func TestM2MarksAlike(t *testing.T) {
	var seen [4]bool
	for n := range uint64(20000) {
		f := bloom.Of(of(in(n)))
		wantFilter(t, "a number", f, marked(in(n)))
		wantMay(t, f, in(n), true)
		seen[marks(f)] = true
	}
	if !seen[2] || !seen[3] {
		t.Error("there are no cells of two marks, or of three")
	}
}

func TestM2May(t *testing.T) {
	for _, c := range cells() {
		wantMay(t, full, c, true)
		wantMay(t, marked(c), c, true)
		for _, at := range places(c) {
			wantMay(t, without(full, at), c, false)
			wantMay(t, without(marked(c), at), c, false)
		}
	}
	var odd [4]uint64
	for i := range odd {
		odd[i] = 0xaaaaaaaaaaaaaaaa
	}
	for _, c := range cells() {
		p := places(c)
		wantMay(t, odd, c, p[0]%2+p[1]%2+p[2]%2 == 3)
	}
}

// What was never added may be there all the same, if others have its marks.
func TestM2MayInVain(t *testing.T) {
	all := cells()
	f, vain, not := marked(all[:60]...), 0, 0
	for _, c := range all[60:] {
		there := marked(append(slices.Clone(all[:60]), c)...) == f
		wantMay(t, f, c, there)
		if there {
			vain++
		} else {
			not++
		}
	}
	if vain == 0 || not == 0 {
		t.Errorf("%d may be there, %d may not", vain, not)
	}
}

func TestM2Union(t *testing.T) {
	wantFilter(t, "a union", bloom.Union([4]uint64{1, 2, 4, 1 << 63}, [4]uint64{1, 1, 8, 1}), [4]uint64{1, 3, 12, 1<<63 | 1})
	wantFilter(t, "a union of nothing", bloom.Union(bloom.None(), bloom.None()), [4]uint64{})
	all := cells()
	for i := range all {
		a, b := all[:i], all[i:]
		wantFilter(t, "a union", bloom.Union(marked(a...), marked(b...)), marked(all...))
		wantFilter(t, "a union with none", bloom.Union(marked(a...), bloom.None()), marked(a...))
		wantFilter(t, "a union with none ahead", bloom.Union(bloom.None(), marked(b...)), marked(b...))
		wantFilter(t, "a union with all", bloom.Union(marked(a...), full), full)
		wantFilter(t, "a union with itself", bloom.Union(marked(a...), marked(a...)), marked(a...))
	}
}

func TestM3MayAlways(t *testing.T) {
	all := cells()
	for i := range all {
		f := bloom.Of(all[:i])
		more := bloom.Union(f, bloom.Of(all[i:min(i+7, len(all))]))
		for k, c := range all {
			if k < i {
				wantMay(t, f, c, true)
			}
			if bloom.May(f, c) {
				wantMay(t, bloom.Add(f, all[i]), c, true)
				wantMay(t, more, c, true)
			}
		}
	}
}

func TestP1Strange(t *testing.T) {
	filters := [][4]uint64{{}, full, {math.MaxUint64}, {0, 0, 0, 1 << 63}, {1, 2, 3, 4}}
	for _, c := range cells() {
		for _, f := range filters {
			g := bloom.Add(f, c)
			wantFilter(t, "a cell more", g, bloom.Union(f, marked(c)))
			wantMay(t, g, c, true)
			wantMay(t, f, c, f == g)
		}
	}
}

func TestP2OnlyRead(t *testing.T) {
	l := cells()
	was := slices.Clone(l)
	f := bloom.Of(l[:20])
	if !slices.Equal(l, was) {
		t.Error("a list, or the room behind it, was changed")
	}
	clear(l)
	wantFilter(t, "Of a list", f, marked(was[:20]...))
	a, b := f, full
	bloom.Add(a, gone)
	bloom.Union(a, b)
	if a != f || b != full {
		t.Error("a filter was changed")
	}
}

func TestP3SameAgain(t *testing.T) {
	l := cells()
	f := marked(l[:30]...)
	var all sync.WaitGroup
	for range 8 {
		all.Go(func() {
			for range 100 {
				bloom.Of(l)
				bloom.Add(bloom.None(), l[3])
				wantFilter(t, "None", bloom.None(), [4]uint64{})
				wantFilter(t, "Of a list", bloom.Of(l[:30]), f)
				wantMay(t, f, l[29], true)
				wantHash(t, l[5], hashed(l[5]))
			}
		})
	}
	all.Wait()
}

func TestP4LongOnes(t *testing.T) {
	long := tx(strings.Repeat("x", 1<<26))
	wantLong := hashed(long)
	if bloom.Hash(long) != wantLong {
		t.Error("Hash of a long text is another one")
	}
	if f := bloom.Of(of(long, gone)); f != marked(long, gone) || !bloom.May(f, long) {
		t.Error("Of a long text is another one")
	}
	many := make([]api.Cell, 1<<22)
	wantFilter(t, "Of many Nulls", bloom.Of(many), marked(gone))
	for i := range many {
		many[i] = in(uint64(i))
	}
	wantFilter(t, "Of many numbers", bloom.Of(many), full)
}
