package codec_test

import (
	"math"
	"math/big"
	"slices"
	"strings"
	"sync"
	"testing"

	"hypostyle/api"
	"hypostyle/bits"
	"hypostyle/codec"
	"hypostyle/delta"
	"hypostyle/front"
	"hypostyle/hybrid"
	"hypostyle/patch"
	"hypostyle/vary"
)

// of: a list of numbers.
func of(l ...uint64) []uint64 { return l }

// words: a list of texts.
func words(l ...string) []string { return l }

// repeated: so many of a number.
func repeated(n uint64, many int) []uint64 { return slices.Repeat([]uint64{n}, many) }

// same: so many of a text.
func same(s string, many int) []string { return slices.Repeat([]string{s}, many) }

// wide: a text of the most bytes.
var wide = strings.Repeat("w", api.MaxText)

// evenly: so many numbers that rise by a step.
func evenly(from, step uint64, many int) []uint64 {
	l := make([]uint64, many)
	for i := range l {
		l[i] = from + uint64(i)*step
	}
	return l
}

// scattered: so many numbers of few bits, now and then one of them all.
func scattered(many, few int) []uint64 {
	l := make([]uint64, many)
	for i := range l {
		l[i] = uint64(i*many+7) * 0x9e3779b97f4a7c15
		if i%11 != 5 {
			l[i] >>= 64 - few
		}
	}
	return l
}

// numbers: lists of every length, for each way some that it is good for.
func numbers() [][]uint64 {
	var out [][]uint64
	for many := range api.MaxList + 1 {
		out = append(out, repeated(0, many), repeated(300, many), repeated(math.MaxUint64, many))
		out = append(out, evenly(1, 1, many), evenly(1<<40, 1<<33+5, many), evenly(5, math.MaxUint64, many))
		out = append(out, scattered(many, 3), scattered(many, 17), scattered(many, 64))
		out = append(out, append(repeated(9, many/2), scattered(many-many/2, 5)...))
	}
	return out
}

// spoken: so many texts, of as few different ones as told, each one of at most so many bytes.
func spoken(many, different, size int) []string {
	l := make([]string, many)
	for i := range l {
		n := i * (i + many) % different
		s := strings.Repeat("ro", n%5) + string([]byte{byte(n * 37), byte(255 - n)}) + wide
		l[i] = s[:(n*n+1)%(size+1)]
	}
	return l
}

// texts: lists of every length, for each way some that it is good for.
func texts() [][]string {
	var out [][]string
	for many := range api.MaxList + 1 {
		out = append(out, same("", many), same(wide, many), spoken(many, 3, 7), spoken(many, 64, api.MaxText), spoken(many, 17, 4))
		rising := make([]string, many)
		for i := range rising {
			rising[i] = "shared by all" + string([]byte{byte('a' + i/8), byte('a' + i%8)})
		}
		out = append(out, rising)
	}
	return out
}

// width: of how many bits the greatest of a list is.
func width(l []uint64) int {
	most := 0
	for _, n := range l {
		most = max(most, new(big.Int).SetUint64(n).BitLen())
	}
	return most
}

// made: a text that was written without an error.
func made(t *testing.T) func(s string, e api.Errno) string {
	t.Helper()
	return func(s string, e api.Errno) string {
		t.Helper()
		if e != api.OK {
			t.Fatalf("there is error %d", e)
		}
		return s
	}
}

// speltNumbers: the form of a list by a way, as the document tells it.
func speltNumbers(t *testing.T, l []uint64, way int) string {
	t.Helper()
	w := width(l)
	switch way {
	case 1:
		return string([]byte{1, byte(w)}) + made(t)(bits.Pack(l, w))
	case 2:
		return string([]byte{2, byte(w)}) + made(t)(hybrid.Write(l, w))
	case 3:
		return "\x03" + made(t)(delta.Write(l))
	}
	return "\x04" + made(t)(patch.Write(l))
}

// bound: a list as places of a book, which need not be the list's own.
func bound(t *testing.T, l, book []string) string {
	t.Helper()
	var places []uint64
	for _, s := range l {
		places = append(places, uint64(slices.Index(book, s)))
	}
	w := 0
	for len(book) > 1<<w {
		w++
	}
	return "\x06" + vary.Write(uint64(len(book))) + made(t)(bits.Pack(places, w)) + made(t)(front.Write(book))
}

// speltTexts: the form of a list by a way, as the document tells it.
func speltTexts(t *testing.T, l []string, way int) string {
	t.Helper()
	switch way {
	case 5:
		out := "\x05"
		for _, s := range l {
			out += string([]byte{byte(len(s))}) + s
		}
		return out
	case 6:
		return bound(t, l, slices.Compact(slices.Sorted(slices.Values(l))))
	}
	return "\x07" + made(t)(front.Write(l))
}

func wantNumbers(t *testing.T, l []uint64, way int, s string, e api.Errno) {
	t.Helper()
	if gs, ge := codec.Numbers(l, way); gs != s || ge != e {
		t.Errorf("Numbers(%d, %d) = %x %d, must be %x %d", l, way, gs, ge, s, e)
	}
}

func wantTexts(t *testing.T, l []string, way int, s string, e api.Errno) {
	t.Helper()
	if gs, ge := codec.Texts(l, way); gs != s || ge != e {
		t.Errorf("Texts(%q, %d) = %q %d, must be %q %d", l, way, gs, ge, s, e)
	}
}

func wantBestNumbers(t *testing.T, l []uint64, s string, e api.Errno) {
	t.Helper()
	if gs, ge := codec.BestNumbers(l); gs != s || ge != e {
		t.Errorf("BestNumbers(%d) = %x %d, must be %x %d", l, gs, ge, s, e)
	}
}

func wantBestTexts(t *testing.T, l []string, s string, e api.Errno) {
	t.Helper()
	if gs, ge := codec.BestTexts(l); gs != s || ge != e {
		t.Errorf("BestTexts(%q) = %q %d, must be %q %d", l, gs, ge, s, e)
	}
}

func wantReadNumbers(t *testing.T, s string, many int, l []uint64, e api.Errno) {
	t.Helper()
	if gl, ge := codec.ReadNumbers(s, many); !slices.Equal(gl, l) || ge != e {
		t.Errorf("ReadNumbers(%x, %d) = %d %d, must be %d %d", s, many, gl, ge, l, e)
	}
}

func wantReadTexts(t *testing.T, s string, many int, l []string, e api.Errno) {
	t.Helper()
	if gl, ge := codec.ReadTexts(s, many); !slices.Equal(gl, l) || ge != e {
		t.Errorf("ReadTexts(%q, %d) = %q %d, must be %q %d", s, many, gl, ge, l, e)
	}
}

func TestK1Numbers(t *testing.T) {
	for _, c := range []struct {
		l   []uint64
		way int
		s   string
	}{
		{nil, api.Packed, "\x01\x00"},
		{nil, api.Hybrid, "\x02\x00"},
		{nil, api.Delta, "\x03"},
		{nil, api.Patch, "\x04\x00\x00\x00"},
		{of(0), api.Packed, "\x01\x00"},
		{of(0), api.Hybrid, "\x02\x00\x03"},
		{of(0), api.Delta, "\x03\x00\x00"},
		{of(0), api.Patch, "\x04\x00\x00\x00"},
		{of(5, 1, 6), api.Packed, "\x01\x03\x8d\x01"},
		{of(5, 1, 6), api.Hybrid, "\x02\x03\x03\x8d\x01\x00"},
		{of(5, 1, 6), api.Delta, "\x03\x05\x04\x03\xa7\x00\x00\x00"},
		{of(5, 1, 6), api.Patch, "\x04\x01\x03\x00\x44\x01"},
		{of(math.MaxUint64), api.Packed, "\x01\x40\xff\xff\xff\xff\xff\xff\xff\xff"},
		{of(math.MaxUint64), api.Delta, "\x03\xff\xff\xff\xff\xff\xff\xff\xff\xff\x00"},
		{of(math.MaxUint64), api.Patch, "\x04\xff\xff\xff\xff\xff\xff\xff\xff\xff\x00\x00"},
		{repeated(9, 10), api.Packed, "\x01\x04\x99\x99\x99\x99\x99"},
		{repeated(9, 10), api.Hybrid, "\x02\x04\x14\x09"},
		{repeated(9, 10), api.Delta, "\x03\x09\x00\x12"},
		{repeated(9, 10), api.Patch, "\x04\x09\x00\x00"},
	} {
		wantNumbers(t, c.l, c.way, c.s, api.OK)
	}
}

func TestK1NumbersEach(t *testing.T) {
	for _, l := range numbers() {
		for way := api.Packed; way <= api.Patch; way++ {
			wantNumbers(t, l, way, speltNumbers(t, l, way), api.OK)
		}
	}
}

func TestK1Texts(t *testing.T) {
	for _, c := range []struct {
		l   []string
		way int
		s   string
	}{
		{nil, api.Plain, "\x05"},
		{nil, api.Book, "\x06\x00"},
		{nil, api.Front, "\x07"},
		{words(""), api.Plain, "\x05\x00"},
		{words(""), api.Book, "\x06\x01\x00\x00"},
		{words(""), api.Front, "\x07\x00\x00"},
		{words("rook", "wren", "rook"), api.Plain, "\x05\x04rook\x04wren\x04rook"},
		{words("rook", "wren", "rook"), api.Book, "\x06\x02\x02\x00\x04rook\x00\x04wren"},
		{words("rook", "wren", "rook"), api.Front, "\x07\x00\x04rook\x00\x04wren\x00\x04rook"},
		{words("rooks", "rook", "rooks"), api.Plain, "\x05\x05rooks\x04rook\x05rooks"},
		{words("rooks", "rook", "rooks"), api.Book, "\x06\x02\x05\x00\x04rook\x04\x01s"},
		{words("rooks", "rook", "rooks"), api.Front, "\x07\x00\x05rooks\x04\x00\x04\x01s"},
		{words(wide), api.Plain, "\x05\x10" + wide},
		{words(wide), api.Book, "\x06\x01\x00\x10" + wide},
		{words(wide), api.Front, "\x07\x00\x10" + wide},
		{words("\x00\xff", "\xff"), api.Plain, "\x05\x02\x00\xff\x01\xff"},
		{words("\xff", "\x00\xff"), api.Book, "\x06\x02\x01\x00\x02\x00\xff\x00\x01\xff"},
		// A book of one text has places of no bits.
		{same("a", 64), api.Book, "\x06\x01\x00\x01a"},
		// One of three has places of two bits.
		{words("b", "a", "c"), api.Book, "\x06\x03\x21\x00\x01a\x00\x01b\x00\x01c"},
	} {
		wantTexts(t, c.l, c.way, c.s, api.OK)
	}
}

func TestK1TextsEach(t *testing.T) {
	for _, l := range texts() {
		for way := api.Plain; way <= api.Front; way++ {
			wantTexts(t, l, way, speltTexts(t, l, way), api.OK)
		}
	}
}

// The places have a bit more from 2, 3, 5, 9, 17 and 33 texts of the book on.
func TestK1BookWidth(t *testing.T) {
	ends := []int{1, 2, 4, 8, 16, 32, 64}
	for many := 1; many <= api.MaxList; many++ {
		w := slices.IndexFunc(ends, func(end int) bool { return many <= end })
		l := make([]string, many)
		size := 2 + (many*w+7)/8 + 3*many
		for i := range l {
			l[i] = string([]byte{byte(i)})
		}
		s, e := codec.Texts(l, api.Book)
		if e != api.OK || len(s) != size || s[1] != byte(many) {
			t.Errorf("a book of %d texts is %x %d, must have %d bytes", many, s, e, size)
		}
	}
}

func TestK2NoSuchWay(t *testing.T) {
	for _, way := range []int{math.MinInt, -1, 0, 5, 6, 7, 8, 255, 257, 1<<32 + 1, math.MaxInt} {
		wantNumbers(t, nil, way, "", api.ErrKind)
		wantNumbers(t, of(1, 2), way, "", api.ErrKind)
		wantNumbers(t, make([]uint64, api.MaxList+1), way, "", api.ErrKind)
	}
	for _, way := range []int{math.MinInt, -1, 0, 1, 2, 3, 4, 8, 255, 261, 1<<32 + 5, math.MaxInt} {
		wantTexts(t, nil, way, "", api.ErrKind)
		wantTexts(t, words("a"), way, "", api.ErrKind)
		wantTexts(t, make([]string, api.MaxList+1), way, "", api.ErrKind)
		wantTexts(t, words(wide+"w"), way, "", api.ErrKind)
	}
}

func TestK2Many(t *testing.T) {
	for _, many := range []int{api.MaxList + 1, api.MaxList + 2, 5000} {
		for way := api.Packed; way <= api.Patch; way++ {
			wantNumbers(t, make([]uint64, many), way, "", api.ErrMany)
			wantNumbers(t, scattered(many, 9), way, "", api.ErrMany)
		}
		for way := api.Plain; way <= api.Front; way++ {
			wantTexts(t, make([]string, many), way, "", api.ErrMany)
			wantTexts(t, same("rook", many), way, "", api.ErrMany)
		}
		wantBestNumbers(t, make([]uint64, many), "", api.ErrMany)
		wantBestTexts(t, make([]string, many), "", api.ErrMany)
	}
}

func TestK2LongText(t *testing.T) {
	long := wide + "w"
	for _, l := range [][]string{words(long), words(long, "a"), words("a", long), words(wide, wide, long), append(same(wide, 63), long), words(strings.Repeat("x", 5000))} {
		for way := api.Plain; way <= api.Front; way++ {
			wantTexts(t, l, way, "", api.ErrMany)
		}
		wantBestTexts(t, l, "", api.ErrMany)
	}
}

func TestK2Best(t *testing.T) {
	wantBestNumbers(t, nil, "\x03", api.OK)
	wantBestNumbers(t, of(0), "\x01\x00", api.OK)
	wantBestNumbers(t, make([]uint64, 64), "\x01\x00", api.OK)
	wantBestNumbers(t, of(155, 8, 7), "\x01\x08\x9b\x08\x07", api.OK)
	wantBestNumbers(t, evenly(1, 1, 12), "\x03\x01\x02\x16\x02", api.OK)
	wantBestNumbers(t, of(1000, 1000, 1001, 1000), "\x04\x83\xe8\x01\x00\x04", api.OK)
	wantBestNumbers(t, of(100, 101, 103, 100, 9999, 102, 101, 100), "\x04\x64\x02\x01\x34\x18\x04\xa6\xab", api.OK)
	wantBestTexts(t, words("", "a", "b"), "\x05\x00\x01a\x01b", api.OK)
	wantBestTexts(t, words("rook", "wren", "rook"), "\x06\x02\x02\x00\x04rook\x00\x04wren", api.OK)
	wantBestTexts(t, words("rook", "rooks", "room"), "\x07\x00\x04rook\x04\x01s\x03\x01m", api.OK)
}

// Where several ways have the fewest bytes, it is the least one.
func TestK2BestAlike(t *testing.T) {
	// Packed, Delta.
	wantBestNumbers(t, of(5), "\x01\x03\x05", api.OK)
	// Hybrid, Delta, Patch.
	wantBestNumbers(t, repeated(9, 10), "\x02\x04\x14\x09", api.OK)
	// Delta, Patch.
	wantBestNumbers(t, repeated(1000, 5), "\x03\x83\xe8\x00\x03", api.OK)
	// Plain, Front.
	wantBestTexts(t, nil, "\x05", api.OK)
	// Book, Front.
	wantBestTexts(t, words("rook", "rook"), "\x06\x01\x00\x04rook", api.OK)
}

func TestK2BestEach(t *testing.T) {
	var won [api.Front + 1]int
	for _, l := range numbers() {
		best := speltNumbers(t, l, api.Packed)
		for way := api.Hybrid; way <= api.Patch; way++ {
			if s := speltNumbers(t, l, way); len(s) < len(best) {
				best = s
			}
		}
		won[best[0]]++
		wantBestNumbers(t, l, best, api.OK)
	}
	for _, l := range texts() {
		best := speltTexts(t, l, api.Plain)
		for way := api.Book; way <= api.Front; way++ {
			if s := speltTexts(t, l, way); len(s) < len(best) {
				best = s
			}
		}
		won[best[0]]++
		wantBestTexts(t, l, best, api.OK)
	}
	for way := api.Packed; way <= api.Front; way++ {
		if won[way] == 0 {
			t.Errorf("way %d was the best one of no list", way)
		}
	}
}

// limited: texts of which something else is wrong too.
func limited() []string {
	return words("", "\x00", "\x08", "\x01", "\x01\x00", "\x01\x41", "\x02\x00\x03", "\x03\x05", "\x04", "\x05\x00", "\x06\x41", "\x07\x00\x01a")
}

func TestK3Limits(t *testing.T) {
	for _, s := range limited() {
		for _, many := range []int{-1, -64, math.MinInt} {
			wantReadNumbers(t, s, many, nil, api.ErrRange)
			wantReadTexts(t, s, many, nil, api.ErrRange)
		}
		for _, many := range []int{api.MaxList + 1, 1 << 32, 1 << 58, math.MaxInt} {
			wantReadNumbers(t, s, many, nil, api.ErrMany)
			wantReadTexts(t, s, many, nil, api.ErrMany)
		}
	}
}

func TestK3NoSuchWay(t *testing.T) {
	for _, many := range []int{0, 1, 8, 64} {
		wantReadNumbers(t, "", many, nil, api.ErrNone)
		wantReadTexts(t, "", many, nil, api.ErrNone)
		for way := range 256 {
			head := string([]byte{byte(way)})
			if way < api.Packed || way > api.Patch {
				wantReadNumbers(t, head, many, nil, api.ErrKind)
				wantReadNumbers(t, head+"\x00\x00", many, nil, api.ErrKind)
			}
			if way < api.Plain || way > api.Front {
				wantReadTexts(t, head, many, nil, api.ErrKind)
				wantReadTexts(t, head+"\x00\x00", many, nil, api.ErrKind)
			}
		}
	}
}

// asked: so many are asked of a text, and the answer is an error.
type asked struct {
	s    string
	many int
	e    api.Errno
}

func TestK3Packed(t *testing.T) {
	wantReadNumbers(t, "\x01\x00", 0, nil, api.OK)
	wantReadNumbers(t, "\x01\x00", 64, make([]uint64, 64), api.OK)
	wantReadNumbers(t, "\x01\x03\x8d\x01", 3, of(5, 1, 6), api.OK)
	for _, c := range []asked{
		{"\x01", 0, api.ErrNone},
		{"\x01", 1, api.ErrNone},
		// Errors of Unpack.
		{"\x01\x41", 0, api.ErrRange},
		{"\x01\xff", 1, api.ErrRange},
		{"\x01\x03", 1, api.ErrForm},
		{"\x01\x03\x8d", 3, api.ErrForm},
		{"\x01\x03\x8d\x81", 3, api.ErrForm},
		{"\x01\x03\x8d\x01\x00", 3, api.ErrForm},
		{"\x01\x00\x00", 1, api.ErrForm},
		// The width is not that of what is read.
		{"\x01\x01", 0, api.ErrForm},
		{"\x01\x40", 0, api.ErrForm},
		{"\x01\x01\x00", 1, api.ErrForm},
		{"\x01\x04\x07", 1, api.ErrForm},
		{"\x01\x08\x7f\x7f", 2, api.ErrForm},
		{"\x01\x40\xff\xff\xff\xff\xff\xff\xff\x7f", 1, api.ErrForm},
	} {
		wantReadNumbers(t, c.s, c.many, nil, c.e)
	}
}

func TestK3Hybrid(t *testing.T) {
	wantReadNumbers(t, "\x02\x00", 0, nil, api.OK)
	wantReadNumbers(t, "\x02\x04\x14\x09", 10, repeated(9, 10), api.OK)
	wantReadNumbers(t, "\x02\x00\x80\x80", 64, make([]uint64, 64), api.OK)
	// Parts as Write does not make them: two runs of one number, a run of one.
	wantReadNumbers(t, "\x02\x04\x0a\x09\x0a\x09", 10, repeated(9, 10), api.OK)
	wantReadNumbers(t, "\x02\x03\x02\x05\x02\x01", 2, of(5, 1), api.OK)
	for _, c := range []asked{
		{"\x02", 0, api.ErrNone},
		{"\x02", 1, api.ErrNone},
		// Errors of Read of chapter 5.
		{"\x02\x41", 0, api.ErrRange},
		{"\x02\xff\x02\x01", 1, api.ErrRange},
		{"\x02\x04", 1, api.ErrNone},
		{"\x02\x04\x80", 1, api.ErrNone},
		{"\x02\x04\x80\x02", 1, api.ErrForm},
		{"\x02\x04\x00", 1, api.ErrForm},
		{"\x02\x04\x04\x09", 1, api.ErrMany},
		{"\x02\x04\x02", 1, api.ErrNone},
		{"\x02\x04\x02\x19", 1, api.ErrForm},
		{"\x02\x04\x02\x09z", 1, api.ErrForm},
		{"\x02\x00\x02", 0, api.ErrForm},
		// The width is not that of what is read.
		{"\x02\x01", 0, api.ErrForm},
		{"\x02\x05\x02\x09", 1, api.ErrForm},
		{"\x02\x01\x02\x00", 1, api.ErrForm},
		{"\x02\x40\x02\xff\xff\xff\xff\xff\xff\xff\x7f", 1, api.ErrForm},
	} {
		wantReadNumbers(t, c.s, c.many, nil, c.e)
	}
}

func TestK3Delta(t *testing.T) {
	wantReadNumbers(t, "\x03", 0, nil, api.OK)
	wantReadNumbers(t, "\x03\x05\x00", 1, of(5), api.OK)
	wantReadNumbers(t, "\x03\x01\x02\x16\x02", 12, evenly(1, 1, 12), api.OK)
	for _, c := range []asked{
		{"\x03\x00", 0, api.ErrForm},
		{"\x03", 1, api.ErrNone},
		{"\x03\x80\x02\x00", 1, api.ErrForm},
		{"\x03\x05", 1, api.ErrNone},
		{"\x03\x05\x41", 1, api.ErrRange},
		{"\x03\x05\x01", 1, api.ErrForm},
		{"\x03\x05\x00\x00", 1, api.ErrForm},
		{"\x03\x01\x03\x16\x02", 12, api.ErrForm},
		{"\x03\x01\x02\x16\x02", 11, api.ErrMany},
		{"\x03\x01\x02\x16\x02", 13, api.ErrNone},
	} {
		wantReadNumbers(t, c.s, c.many, nil, c.e)
	}
}

func TestK3Patch(t *testing.T) {
	wantReadNumbers(t, "\x04\x00\x00\x00", 0, nil, api.OK)
	wantReadNumbers(t, "\x04\x05\x00\x00", 3, of(5, 5, 5), api.OK)
	wantReadNumbers(t, "\x04\x05\x02\x02\x04\x00\x09\x02\x04", 3, of(14, 6, 9), api.OK)
	for _, c := range []asked{
		{"\x04", 0, api.ErrNone},
		{"\x04\x80\x02\x00\x00", 1, api.ErrForm},
		{"\x04\x05\x00", 1, api.ErrNone},
		{"\x04\x05\x41\x00", 1, api.ErrRange},
		{"\x04\x05\x01\x00", 1, api.ErrNone},
		{"\x04\x05\x01\x00\x02", 1, api.ErrForm},
		{"\x04\x05\x00\x01\x01\x07", 1, api.ErrRange},
		{"\x04\x05\x00\x02\x01\x07\x00\x07", 2, api.ErrState},
		{"\x04\x05\x00\x00z", 1, api.ErrForm},
		{"\x04" + strings.Repeat("\xff", 9) + "\x01\x00\x01", 1, api.ErrOver},
	} {
		wantReadNumbers(t, c.s, c.many, nil, c.e)
	}
}

func TestK3Plain(t *testing.T) {
	wantReadTexts(t, "\x05", 0, nil, api.OK)
	wantReadTexts(t, "\x05\x00", 1, words(""), api.OK)
	wantReadTexts(t, "\x05\x01a\x00\x02\x00\xff", 3, words("a", "", "\x00\xff"), api.OK)
	wantReadTexts(t, "\x05\x10"+wide, 1, words(wide), api.OK)
	wantReadTexts(t, "\x05"+strings.Repeat("\x00", 64), 64, same("", 64), api.OK)
	for _, c := range []asked{
		// Errors of Read of chapter 1.
		{"\x05", 1, api.ErrNone},
		{"\x05\x80", 1, api.ErrNone},
		{"\x05\x80\x01", 1, api.ErrForm},
		{"\x05\xff\x00\x00\x00\x00\x00\x00\x00\x01", 1, api.ErrForm},
		{"\x05\x01a", 2, api.ErrNone},
		// It is longer than MaxText, whether its bytes are there or not.
		{"\x05\x11", 1, api.ErrMany},
		{"\x05\x11" + wide + "w", 1, api.ErrMany},
		{"\x05\x80\x80", 1, api.ErrMany},
		{"\x05\xff\xff\xff\xff\xff\xff\xff\xff\xff", 1, api.ErrMany},
		{"\x05\xff\x80\x00\x00\x00\x00\x00\x00\x01a", 1, api.ErrMany},
		// Its bytes are not all there.
		{"\x05\x01", 1, api.ErrNone},
		{"\x05\x10" + wide[1:], 1, api.ErrNone},
		{"\x05\x01a\x02b", 2, api.ErrNone},
		// The first one of which something is wrong tells.
		{"\x05\x11\x80\x01", 2, api.ErrMany},
		{"\x05\x80\x01\x11", 2, api.ErrForm},
		{"\x05\x01a\x11" + wide, 3, api.ErrMany},
		// Something is left.
		{"\x05\x00", 0, api.ErrForm},
		{"\x05\x11", 0, api.ErrForm},
		{"\x05\x01a\x00", 1, api.ErrForm},
		{"\x05\x01a\x11", 1, api.ErrForm},
	} {
		wantReadTexts(t, c.s, c.many, nil, c.e)
	}
}

func TestK3Book(t *testing.T) {
	wantReadTexts(t, "\x06\x00", 0, nil, api.OK)
	wantReadTexts(t, "\x06\x01\x00\x01a", 64, same("a", 64), api.OK)
	wantReadTexts(t, "\x06\x02\x01\x00\x01a\x00\x01b", 2, words("b", "a"), api.OK)
	wantReadTexts(t, "\x06\x03\x24\x00\x01a\x00\x01b\x00\x01c", 3, words("a", "b", "c"), api.OK)
	// A book may have texts that are not asked for.
	wantReadTexts(t, "\x06\x01\x00\x01a", 0, nil, api.OK)
	wantReadTexts(t, "\x06\x03\x02\x00\x01a\x00\x01b\x00\x01c", 1, words("c"), api.OK)
	wantReadTexts(t, "\x06\x03\x04\x00\x01a\x00\x01b\x00\x01c", 2, words("a", "b"), api.OK)
	for _, c := range []asked{
		// Errors of Read of chapter 1.
		{"\x06", 0, api.ErrNone},
		{"\x06", 1, api.ErrNone},
		{"\x06\x80", 1, api.ErrNone},
		{"\x06\x80\x02\x01\x00\x01a\x00\x01b", 2, api.ErrForm},
		// The book has more than MaxList texts.
		{"\x06\x41", 0, api.ErrMany},
		{"\x06\x41", 1, api.ErrMany},
		{"\x06\xff\xff\xff\xff\xff\xff\xff\xff\xff", 1, api.ErrMany},
		{"\x06\xff\x80\x00\x00\x00\x00\x00\x00\x01", 1, api.ErrMany},
		// The places are not all there.
		{"\x06\x02", 1, api.ErrNone},
		{"\x06\x02\x01", 9, api.ErrNone},
		{"\x06\x40\xff\xff", 3, api.ErrNone},
		// Errors of Unpack.
		{"\x06\x02\x02", 1, api.ErrForm},
		{"\x06\x02\x02\x00\x01b\x00\x01a", 1, api.ErrForm},
		{"\x06\x03\xc0\x00\x01a\x00\x01b\x00\x01c", 3, api.ErrForm},
		// Errors of Read of chapter 9.
		{"\x06\x02\x01", 1, api.ErrNone},
		{"\x06\x01\x01\x01a", 1, api.ErrRange},
		{"\x06\x02\x00\x00\x01b\x00\x01a", 0, api.ErrRange},
		{"\x06\x01\x00\x11" + wide, 1, api.ErrMany},
		{"\x06\x01\x00\x02a", 1, api.ErrNone},
		{"\x06\x02\x00\x00\x01a\x00\x01a", 1, api.ErrForm},
		{"\x06\x01\x00\x01az", 1, api.ErrForm},
		{"\x06\x00\x00", 0, api.ErrForm},
		{"\x06\x00\x00", 1, api.ErrForm},
		{"\x06\x01", 0, api.ErrNone},
		// Errors of Texts of chapter 8: it is no book; there is no such place in it.
		{"\x06\x02\x01\x00\x01b\x00\x01a", 1, api.ErrState},
		{"\x06\x02\x00\x01b\x00\x01a", 0, api.ErrState},
		{"\x06\x02\x00\x00\x01a\x01\x00", 1, api.ErrState},
		{"\x06\x03\x03\x00\x01a\x00\x01b\x00\x01c", 1, api.ErrRange},
		{"\x06\x03\x03\x00\x01b\x00\x01a\x00\x01c", 1, api.ErrState},
		{"\x06\x00", 1, api.ErrRange},
		{"\x06\x00", 64, api.ErrRange},
	} {
		wantReadTexts(t, c.s, c.many, nil, c.e)
	}
}

// Of whatever book that has the texts they are read.
func TestK3BookOfMore(t *testing.T) {
	for many := range 30 {
		l := spoken(many, 9, 9)
		for more := range 30 {
			book := slices.Clone(l)
			for i := range more {
				book = append(book, "more"+string([]byte{byte(i * 31)}))
			}
			slices.Sort(book)
			wantReadTexts(t, bound(t, l, slices.Compact(book)), many, l, api.OK)
		}
	}
}

func TestK3Front(t *testing.T) {
	wantReadTexts(t, "\x07", 0, nil, api.OK)
	wantReadTexts(t, "\x07\x00\x04rook\x04\x01s\x03\x01m", 3, words("rook", "rooks", "room"), api.OK)
	for _, c := range []asked{
		{"\x07", 1, api.ErrNone},
		{"\x07\x00", 1, api.ErrNone},
		{"\x07\x80\x01\x01a", 1, api.ErrForm},
		{"\x07\x01\x01a", 1, api.ErrRange},
		{"\x07\x00\x11" + wide + "w", 1, api.ErrMany},
		{"\x07\x00\x02a", 1, api.ErrNone},
		{"\x07\x00\x01a\x00\x01a", 2, api.ErrForm},
		{"\x07\x00\x01az", 1, api.ErrForm},
		{"\x07\x00", 0, api.ErrForm},
	} {
		wantReadTexts(t, c.s, c.many, nil, c.e)
	}
}

// What is written is read as it was, by whatever way, and by the best one; a text of
// the other sort is not.
func TestK3AsItWas(t *testing.T) {
	for _, l := range numbers() {
		for way := api.Packed; way <= api.Patch; way++ {
			s, _ := codec.Numbers(l, way)
			wantReadNumbers(t, s, len(l), l, api.OK)
			wantReadTexts(t, s, len(l), nil, api.ErrKind)
		}
		s, _ := codec.BestNumbers(l)
		wantReadNumbers(t, s, len(l), l, api.OK)
	}
	for _, l := range texts() {
		for way := api.Plain; way <= api.Front; way++ {
			s, _ := codec.Texts(l, way)
			wantReadTexts(t, s, len(l), l, api.OK)
			wantReadNumbers(t, s, len(l), nil, api.ErrKind)
		}
		s, _ := codec.BestTexts(l)
		wantReadTexts(t, s, len(l), l, api.OK)
	}
}

// Where a byte more stands, the text is not read. Of a text that was cut short
// nothing is read either.
func TestK3AllOfIt(t *testing.T) {
	for _, l := range numbers() {
		for way := api.Packed; way <= api.Patch; way++ {
			s, _ := codec.Numbers(l, way)
			wantReadNumbers(t, s+"\x00", len(l), nil, api.ErrForm)
			for c := range len(s) {
				if got, e := codec.ReadNumbers(s[:c], len(l)); e == api.OK || len(got) != 0 {
					t.Errorf("ReadNumbers(%x, %d) = %d %d", s[:c], len(l), got, e)
				}
			}
		}
	}
	for _, l := range texts() {
		for way := api.Plain; way <= api.Front; way++ {
			s, _ := codec.Texts(l, way)
			wantReadTexts(t, s+"\x00", len(l), nil, api.ErrForm)
			for c := range len(s) {
				wantReadTexts(t, s[:c], len(l), nil, api.ErrNone)
			}
		}
	}
}

// strange: texts of whatever bytes behind each way.
func strange() []string {
	out := words("", strings.Repeat("\xff", 600), strings.Repeat("\x00", 5000))
	for way := range 10 {
		head := string([]byte{byte(way)})
		out = append(out, head+strings.Repeat("\xff", 600), head+strings.Repeat("\x00", 5000), head+"\x40"+strings.Repeat("\x01a", 70))
		for i := range 1 << 13 {
			out = append(out, head+string([]byte{byte(i % 7), byte(i % 5), byte(i >> 10), byte(i >> 5 & 3), byte(i)}))
		}
	}
	return out
}

// What is read of a strange text is written so that it is read again; all else is
// nothing but an error.
func TestP1StrangeTexts(t *testing.T) {
	for _, s := range strange() {
		for _, many := range []int{math.MinInt, -1, 0, 1, 2, 3, 8, 63, 64, 65, 1 << 32, 1 << 58, math.MaxInt} {
			l, e := codec.ReadNumbers(s, many)
			if e == api.OK {
				best, _ := codec.BestNumbers(l)
				wantReadNumbers(t, best, many, l, api.OK)
			} else if len(l) != 0 {
				t.Errorf("ReadNumbers(%x, %d) = %d with error %d", s, many, l, e)
			}
			m, f := codec.ReadTexts(s, many)
			if f == api.OK {
				best, _ := codec.BestTexts(m)
				wantReadTexts(t, best, many, m, api.OK)
			} else if len(m) != 0 {
				t.Errorf("ReadTexts(%x, %d) = %q with error %d", s, many, m, f)
			}
			if e == api.OK && f == api.OK {
				t.Errorf("%x is read as numbers and as texts", s)
			}
		}
	}
}

func TestP2OnlyRead(t *testing.T) {
	l, m := scattered(40, 9), spoken(40, 9, 16)
	wasL, wasM := slices.Clone(l), slices.Clone(m)
	for way := range 9 {
		codec.Numbers(l[:20], way)
		codec.Texts(m[:20], way)
	}
	s, _ := codec.BestNumbers(l[:20])
	u, _ := codec.BestTexts(m[:20])
	if !slices.Equal(l, wasL) || !slices.Equal(m, wasM) {
		t.Error("a list, or the room behind it, was changed")
	}
	clear(l)
	clear(m)
	wantReadNumbers(t, s, 20, wasL[:20], api.OK)
	wantReadTexts(t, u, 20, wasM[:20], api.OK)
}

func TestP2NewMemory(t *testing.T) {
	l, m := scattered(40, 9), spoken(40, 9, 16)
	for way := range 9 {
		s, _ := codec.Numbers(l, way)
		first, e := codec.ReadNumbers(s, len(l))
		second, _ := codec.ReadNumbers(s, len(l))
		clear(first[:cap(first)])
		if e == api.OK && !slices.Equal(second, l) {
			t.Errorf("two answers of way %d share memory", way)
		}
		u, _ := codec.Texts(m, way)
		one, e := codec.ReadTexts(u, len(m))
		other, _ := codec.ReadTexts(u, len(m))
		clear(one[:cap(one)])
		if e == api.OK && !slices.Equal(other, m) {
			t.Errorf("two answers of way %d share memory", way)
		}
	}
}

func TestP3SameAgain(t *testing.T) {
	l, m := scattered(60, 9), spoken(60, 9, 16)
	var all sync.WaitGroup
	for range 8 {
		all.Go(func() {
			for range 20 {
				codec.BestNumbers(make([]uint64, api.MaxList+1))
				codec.BestTexts(words(wide + "w"))
				for way := api.Packed; way <= api.Patch; way++ {
					s := speltNumbers(t, l, way)
					codec.ReadNumbers(s, 59)
					wantNumbers(t, l, way, s, api.OK)
					wantReadNumbers(t, s, 60, l, api.OK)
				}
				for way := api.Plain; way <= api.Front; way++ {
					s := speltTexts(t, m, way)
					codec.ReadTexts(s, 59)
					wantTexts(t, m, way, s, api.OK)
					wantReadTexts(t, s, 60, m, api.OK)
				}
			}
		})
	}
	all.Wait()
}

func TestP4LongOnes(t *testing.T) {
	l, m := make([]uint64, 1<<22), make([]string, 1<<22)
	long := strings.Repeat("x", 1<<24)
	for way := api.Packed; way <= api.Patch; way++ {
		if s, e := codec.Numbers(l, way); s != "" || e != api.ErrMany {
			t.Errorf("Numbers of a long list by way %d has error %d", way, e)
		}
	}
	for way := api.Plain; way <= api.Front; way++ {
		for _, m := range [][]string{m, words("a", long)} {
			if s, e := codec.Texts(m, way); s != "" || e != api.ErrMany {
				t.Errorf("Texts of a long list by way %d has error %d", way, e)
			}
		}
	}
	if s, e := codec.BestNumbers(l); s != "" || e != api.ErrMany {
		t.Errorf("BestNumbers of a long list has error %d", e)
	}
	if s, e := codec.BestTexts(m); s != "" || e != api.ErrMany {
		t.Errorf("BestTexts of a long list has error %d", e)
	}
	for way, e := range []api.Errno{api.ErrKind, api.ErrRange, api.ErrRange, api.ErrRange, api.ErrRange} {
		if l, f := codec.ReadNumbers(string([]byte{byte(way)})+long, 3); len(l) != 0 || f != e {
			t.Errorf("ReadNumbers of a long text by way %d has error %d, must be %d", way, f, e)
		}
	}
	for way, e := range []api.Errno{api.Plain: api.ErrMany, api.Book: api.ErrMany, api.Front: api.ErrRange} {
		if way < api.Plain {
			e = api.ErrKind
		}
		if l, f := codec.ReadTexts(string([]byte{byte(way)})+long, 3); len(l) != 0 || f != e {
			t.Errorf("ReadTexts of a long text by way %d has error %d, must be %d", way, f, e)
		}
	}
	for _, head := range words("\x05\x00", "\x06\x01\x00\x00", "\x07\x00\x00") {
		if l, e := codec.ReadTexts(head+long, 1); len(l) != 0 || e != api.ErrForm {
			t.Errorf("ReadTexts of a text with a long rest has error %d", e)
		}
	}
}
