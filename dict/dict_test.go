package dict_test

import (
	"bytes"
	"math"
	"slices"
	"strings"
	"sync"
	"testing"

	"hypostyle/api"
	"hypostyle/dict"
)

// of: a list of texts.
func of(l ...string) []string { return l }

// at: places.
func at(l ...uint64) []uint64 { return l }

// wide: a text of the most bytes.
var wide = strings.Repeat("w", api.MaxText)

// words: texts that are beginnings of others, of bytes of any kind, and the longest ones.
func words() []string {
	l := of("", "a", "b", "aa", "ab", "ba", "aab", "rook", "rooks", "roo", "wren", "é", "\x00", "\x00\x00", "a\x00", "a\xff",
		"\x7f", "\x80", "\xff", "\xff\xff", "\xff\x00", "\xc3", wide, wide[1:], strings.Repeat("\xff", api.MaxText), strings.Repeat("\x00", api.MaxText))
	for b := range 8 {
		l = append(l, string([]byte{byte(b << 5)}), string([]byte{'m', byte(b<<5 | 31)}))
	}
	return l
}

// sample: so many texts, some of them again and again.
func sample(many int) []string {
	all := words()
	l := make([]string, many)
	for i := range l {
		l[i] = all[(i*i+many*7)%len(all)]
	}
	return l
}

// counted: so many texts that rise.
func counted(many int) []string {
	l := make([]string, many)
	for i := range l {
		l[i] = string([]byte{'t', byte(i >> 8), byte(i)})
	}
	return l
}

// less: is a text less than another one, byte by byte?
func less(a, b string) bool { return bytes.Compare([]byte(a), []byte(b)) < 0 }

// booked: the book of a list, each text put where it belongs.
func booked(l []string) []string {
	var book []string
	for _, s := range l {
		i := 0
		for i < len(book) && less(book[i], s) {
			i++
		}
		if i == len(book) || book[i] != s {
			book = slices.Insert(book, i, s)
		}
	}
	return book
}

func wantOf(t *testing.T, l, book []string, codes []uint64, e api.Errno) {
	t.Helper()
	gb, gc, ge := dict.Of(l)
	if !slices.Equal(gb, book) || !slices.Equal(gc, codes) || ge != e {
		t.Errorf("Of(%q) = %q %d %d, must be %q %d %d", l, gb, gc, ge, book, codes, e)
	}
}

func wantCheck(t *testing.T, book []string, e api.Errno) {
	t.Helper()
	if ge := dict.Check(book); ge != e {
		t.Errorf("Check(%q) = %d, must be %d", book, ge, e)
	}
}

func wantTexts(t *testing.T, book []string, codes []uint64, l []string, e api.Errno) {
	t.Helper()
	if gl, ge := dict.Texts(book, codes); !slices.Equal(gl, l) || ge != e {
		t.Errorf("Texts(%q, %d) = %q %d, must be %q %d", book, codes, gl, ge, l, e)
	}
}

func wantFind(t *testing.T, book []string, s string, place int, there bool, e api.Errno) {
	t.Helper()
	if gp, gt, ge := dict.Find(book, s); gp != place || gt != there || ge != e {
		t.Errorf("Find(%q, %q) = %d %v %d, must be %d %v %d", book, s, gp, gt, ge, place, there, e)
	}
}

func wantSpan(t *testing.T, book []string, low, high string, from, end int, e api.Errno) {
	t.Helper()
	if gf, gn, ge := dict.Span(book, low, high); gf != from || gn != end || ge != e {
		t.Errorf("Span(%q, %q, %q) = %d %d %d, must be %d %d %d", book, low, high, gf, gn, ge, from, end, e)
	}
}

func TestH1Of(t *testing.T) {
	wantOf(t, nil, nil, nil, api.OK)
	wantOf(t, of(), nil, nil, api.OK)
	wantOf(t, of(""), of(""), at(0), api.OK)
	wantOf(t, of("a"), of("a"), at(0), api.OK)
	wantOf(t, of("b", "a", "b"), of("a", "b"), at(1, 0, 1), api.OK)
	wantOf(t, of("a", "a", "a"), of("a"), at(0, 0, 0), api.OK)
	wantOf(t, of("c", "b", "a"), of("a", "b", "c"), at(2, 1, 0), api.OK)
	// A shorter one that is a beginning stands ahead.
	wantOf(t, of("rooks", "rook", "roo", ""), of("", "roo", "rook", "rooks"), at(3, 2, 1, 0), api.OK)
	wantOf(t, of("b", "ab", "aa", "a"), of("a", "aa", "ab", "b"), at(3, 2, 1, 0), api.OK)
	// Bytes of any kind, the greater ones behind.
	wantOf(t, of("\xff", "\x80", "\x7f", "\x00", "é"), of("\x00", "\x7f", "\x80", "é", "\xff"), at(4, 2, 1, 0, 3), api.OK)
	wantOf(t, of("a\x00", "a", "a\x00\x00"), of("a", "a\x00", "a\x00\x00"), at(1, 0, 2), api.OK)
	wantOf(t, of(wide, wide[1:], wide), of(wide[1:], wide), at(1, 0, 1), api.OK)
	wantOf(t, make([]string, api.MaxList), of(""), make([]uint64, api.MaxList), api.OK)
}

func TestH1OfEach(t *testing.T) {
	for many := range api.MaxList + 1 {
		for _, l := range [][]string{sample(many), counted(many)} {
			book := booked(l)
			codes := make([]uint64, many)
			for i, s := range l {
				codes[i] = uint64(slices.Index(book, s))
			}
			wantOf(t, l, book, codes, api.OK)
			slices.Reverse(l)
			slices.Reverse(codes)
			wantOf(t, l, book, codes, api.OK)
		}
	}
}

func TestH1OfErrors(t *testing.T) {
	for _, many := range []int{api.MaxList + 1, api.MaxList + 2, 5000} {
		wantOf(t, make([]string, many), nil, nil, api.ErrMany)
		wantOf(t, counted(many), nil, nil, api.ErrMany)
	}
	for _, long := range of(wide+"w", strings.Repeat("x", 5000)) {
		wantOf(t, of(long), nil, nil, api.ErrMany)
		wantOf(t, of("a", long), nil, nil, api.ErrMany)
		wantOf(t, append(counted(api.MaxList-1), long), nil, nil, api.ErrMany)
		wantOf(t, append(of(long), counted(api.MaxList)...), nil, nil, api.ErrMany)
	}
}

func TestH1Check(t *testing.T) {
	for _, book := range [][]string{
		nil, of(""), of("a"), of("", "a"), of("a", "b", "d"), of("a", "aa"), of("a", "a\x00"), of("\x7f", "\x80", "\xff"),
		of(wide), of(wide[1:], wide), counted(api.MaxList), booked(words()),
	} {
		wantCheck(t, book, api.OK)
	}
	for _, book := range [][]string{
		of("", ""), of("a", "a"), of("b", "a"), of("aa", "a"), of("a", ""), of("\x80", "\x7f"), of("\xff", "é"),
		of("a", "b", "b"), of("a", "c", "b"), of("b", "a", "c"), of(wide, wide), make([]string, api.MaxList),
		append(counted(api.MaxList-1), "a"), append(of("u"), counted(api.MaxList-1)...),
	} {
		wantCheck(t, book, api.ErrState)
	}
	for _, book := range [][]string{
		of(wide + "w"), of("a", wide+"w"), of(strings.Repeat("x", 5000)), counted(api.MaxList + 1), counted(5000),
		// Both: ErrMany is named first, wherever what is too long stands.
		make([]string, api.MaxList+1), of("b", "a", wide+"w"), of("a", "a", wide+"w"), of(wide+"w", "a"),
	} {
		wantCheck(t, book, api.ErrMany)
	}
}

// At each place of a book one text that is not above the one before is seen.
func TestH1CheckEachPlace(t *testing.T) {
	for i := 1; i < api.MaxList; i++ {
		book := counted(api.MaxList)
		book[i] = book[i-1]
		wantCheck(t, book, api.ErrState)
		book[i] = book[i-1][:2]
		wantCheck(t, book, api.ErrState)
		book[i] = book[i-1] + "\x00"
		wantCheck(t, book, api.OK)
		book[i] = wide + "w"
		wantCheck(t, book, api.ErrMany)
	}
}

// A book that Of makes is one.
func TestH1OfIsABook(t *testing.T) {
	for many := range api.MaxList + 1 {
		book, _, _ := dict.Of(sample(many))
		wantCheck(t, book, api.OK)
	}
}

func TestH2Texts(t *testing.T) {
	book := of("a", "b", "d")
	wantTexts(t, nil, nil, nil, api.OK)
	wantTexts(t, book, nil, nil, api.OK)
	wantTexts(t, book, at(0), of("a"), api.OK)
	wantTexts(t, book, at(2, 0, 1, 2), of("d", "a", "b", "d"), api.OK)
	wantTexts(t, book, make([]uint64, api.MaxList), slices.Repeat(of("a"), api.MaxList), api.OK)
	wantTexts(t, of(""), at(0, 0), of("", ""), api.OK)
	full := counted(api.MaxList)
	for i := range full {
		wantTexts(t, full, at(uint64(i)), full[i:i+1], api.OK)
	}
}

func TestH2TextsErrors(t *testing.T) {
	book := of("a", "b", "d")
	none := at(3)
	for _, codes := range [][]uint64{none, at(0, 1, 2, 3), at(1 << 32), at(1 << 63), at(1<<64 - 1), at(1<<64-1, 0)} {
		wantTexts(t, book, codes, nil, api.ErrRange)
		wantTexts(t, nil, codes, nil, api.ErrRange)
	}
	wantTexts(t, nil, at(0), nil, api.ErrRange)
	wantTexts(t, counted(api.MaxList), at(api.MaxList), nil, api.ErrRange)
	for _, many := range []int{api.MaxList + 1, 5000} {
		wantTexts(t, book, make([]uint64, many), nil, api.ErrMany)
		wantTexts(t, nil, make([]uint64, many), nil, api.ErrMany)
		wantTexts(t, book, slices.Repeat(none, many), nil, api.ErrMany)
	}
	// What is wrong with the book is named first.
	for _, codes := range [][]uint64{nil, at(0), none, make([]uint64, api.MaxList+1)} {
		wantTexts(t, of("b", "a"), codes, nil, api.ErrState)
		wantTexts(t, of("b", "b"), codes, nil, api.ErrState)
		wantTexts(t, of("a", wide+"w"), codes, nil, api.ErrMany)
		wantTexts(t, counted(api.MaxList+1), codes, nil, api.ErrMany)
	}
}

// What was written by places is read as it was.
func TestH2TextsAsTheyWere(t *testing.T) {
	for many := range api.MaxList + 1 {
		l := sample(many)
		book, codes, _ := dict.Of(l)
		wantTexts(t, book, codes, l, api.OK)
	}
}

func TestH2Find(t *testing.T) {
	book := of("a", "b", "d")
	wantFind(t, nil, "", 0, false, api.OK)
	wantFind(t, nil, "a", 0, false, api.OK)
	wantFind(t, book, "", 0, false, api.OK)
	wantFind(t, book, "a", 0, true, api.OK)
	wantFind(t, book, "a\x00", 1, false, api.OK)
	wantFind(t, book, "b", 1, true, api.OK)
	wantFind(t, book, "c", 2, false, api.OK)
	wantFind(t, book, "d", 2, true, api.OK)
	wantFind(t, book, "da", 3, false, api.OK)
	wantFind(t, book, "\xff", 3, false, api.OK)
	wantFind(t, of("", "a"), "", 0, true, api.OK)
	wantFind(t, of("aa"), "a", 0, false, api.OK)
	// A text that no book may have is looked for nonetheless.
	wantFind(t, book, wide+wide, 3, false, api.OK)
	wantFind(t, of(wide), wide+"w", 1, false, api.OK)
	wantFind(t, book, "a"+strings.Repeat("\xff", 5000), 1, false, api.OK)
}

func TestH2FindEach(t *testing.T) {
	book := booked(words())
	for i, s := range book {
		wantFind(t, book, s, i, true, api.OK)
		without := slices.Delete(slices.Clone(book), i, i+1)
		wantFind(t, without, s, i, false, api.OK)
	}
}

func TestH2Span(t *testing.T) {
	book := of("a", "b", "d")
	wantSpan(t, nil, "", "\xff", 0, 0, api.OK)
	wantSpan(t, nil, "b", "a", 0, 0, api.OK)
	wantSpan(t, book, "", "\xff", 0, 3, api.OK)
	wantSpan(t, book, "a", "d", 0, 3, api.OK)
	wantSpan(t, book, "a", "a", 0, 1, api.OK)
	wantSpan(t, book, "b", "c", 1, 2, api.OK)
	wantSpan(t, book, "aa", "d", 1, 3, api.OK)
	wantSpan(t, book, "aa", "da", 1, 3, api.OK)
	wantSpan(t, book, "", "b", 0, 2, api.OK)
	wantSpan(t, of("", "a"), "", "", 0, 1, api.OK)
	// There is none.
	wantSpan(t, book, "c", "c", 2, 2, api.OK)
	wantSpan(t, book, "", "", 0, 0, api.OK)
	wantSpan(t, book, "e", "f", 3, 3, api.OK)
	wantSpan(t, book, "b\x00", "c\xff", 2, 2, api.OK)
	// The lower end is above the higher one.
	wantSpan(t, book, "d", "a", 2, 2, api.OK)
	wantSpan(t, book, "b", "a", 1, 1, api.OK)
	wantSpan(t, book, "e", "", 3, 3, api.OK)
	wantSpan(t, book, "a", "", 0, 0, api.OK)
	// Texts that no book may have.
	wantSpan(t, book, "a"+wide, "b"+wide, 1, 2, api.OK)
	wantSpan(t, book, wide+wide, wide+wide+wide, 3, 3, api.OK)
}

func TestH2SpanEach(t *testing.T) {
	book := booked(append(words(), counted(9)...))[1:]
	ends := append(words(), "t\x00\x04\x00", wide+"w", "zzz", "a\xfe")
	for _, low := range ends {
		for _, high := range ends {
			from := 0
			for from < len(book) && less(book[from], low) {
				from++
			}
			end := from
			for end < len(book) && !less(high, book[end]) {
				end++
			}
			wantSpan(t, book, low, high, from, end, api.OK)
		}
	}
}

func TestH2FindAndSpanErrors(t *testing.T) {
	for _, c := range []struct {
		book []string
		e    api.Errno
	}{
		{of("b", "a"), api.ErrState},
		{of("a", "a"), api.ErrState},
		{of("a", "b", "b"), api.ErrState},
		{of(wide + "w"), api.ErrMany},
		{of("b", "a", wide+"w"), api.ErrMany},
		{counted(api.MaxList + 1), api.ErrMany},
	} {
		for _, s := range of("", "a", "b", "\xff", wide+wide) {
			wantFind(t, c.book, s, 0, false, c.e)
			wantSpan(t, c.book, s, "z", 0, 0, c.e)
			wantSpan(t, c.book, "a", s, 0, 0, c.e)
		}
	}
}

// Places stand in the order of texts.
func TestH3Order(t *testing.T) {
	for many := range api.MaxList + 1 {
		l := sample(many)
		_, codes, _ := dict.Of(l)
		for i := range l {
			for k := range l {
				if less(l[i], l[k]) != (codes[i] < codes[k]) || (l[i] == l[k]) != (codes[i] == codes[k]) {
					t.Errorf("%q and %q are at places %d and %d", l[i], l[k], codes[i], codes[k])
				}
			}
		}
	}
}

// What is asked of texts can be asked of places.
func TestH3AskedOfPlaces(t *testing.T) {
	l := sample(60)
	book, codes, _ := dict.Of(l)
	for _, low := range words() {
		for _, high := range words() {
			from, end, _ := dict.Span(book, low, high)
			for i, s := range l {
				wanted := !less(s, low) && !less(high, s)
				if got := codes[i] >= uint64(from) && codes[i] < uint64(end); got != wanted {
					t.Errorf("%q from %q to %q is %v, by its place %d it is %v", s, low, high, wanted, codes[i], got)
				}
			}
		}
	}
}

func TestP1Strange(t *testing.T) {
	strange := [][]string{
		nil, of(""), of("", ""), of("\xff", "\x00"), of(strings.Repeat("\xff", 1<<16)), make([]string, 1000), slices.Repeat(of(wide), 64), slices.Repeat(of("b", "a"), 32),
	}
	places := [][]uint64{nil, at(0), at(1), at(math.MaxInt64), at(math.MaxInt64 + 1), at(math.MaxUint64), make([]uint64, 1000)}
	for _, l := range strange {
		if book, codes, e := dict.Of(l); e != api.OK && (len(book) != 0 || len(codes) != 0) {
			t.Errorf("Of(%q) = %q %d with error %d", l, book, codes, e)
		}
		for _, codes := range places {
			if got, e := dict.Texts(l, codes); e != api.OK && len(got) != 0 || e == api.OK && len(got) != len(codes) {
				t.Errorf("Texts(%q, %d) = %q %d", l, codes, got, e)
			}
		}
		e := dict.Check(l)
		for _, s := range of("", "\xff", strings.Repeat("x", 1<<16)) {
			place, there, f := dict.Find(l, s)
			if f != e || f != api.OK && (place != 0 || there) {
				t.Errorf("Find(%q, %q) = %d %v %d", l, s, place, there, f)
			}
			from, end, g := dict.Span(l, s, "a")
			if g != e || g != api.OK && (from != 0 || end != 0) || end < from {
				t.Errorf("Span(%q, %q, a) = %d %d %d", l, s, from, end, g)
			}
		}
	}
}

func TestP2OnlyRead(t *testing.T) {
	l := sample(40)
	was := slices.Clone(l)
	book, codes, _ := dict.Of(l[:20])
	if !slices.Equal(l, was) {
		t.Error("a list, or the room behind it, was changed")
	}
	clear(l)
	wantTexts(t, book, codes, was[:20], api.OK)
	l = counted(40)
	was = slices.Clone(l)
	places := at(3, 0, 19, 7, 7)
	dict.Check(l[:20])
	dict.Texts(l[:20], places[:3])
	dict.Find(l[:20], "t")
	dict.Span(l[:20], "t", "u")
	dict.Of(l[:20])
	if !slices.Equal(l, was) || !slices.Equal(places, at(3, 0, 19, 7, 7)) {
		t.Error("a book, places, or the room behind them, were changed")
	}
}

func TestP2NewMemory(t *testing.T) {
	for _, l := range [][]string{sample(30), counted(30), of("a")} {
		was := slices.Clone(l)
		book, codes, _ := dict.Of(l)
		kept, places := slices.Clone(book), slices.Clone(codes)
		texts, _ := dict.Texts(book, codes)
		clear(book[:cap(book)])
		clear(codes[:cap(codes)])
		if !slices.Equal(l, was) || !slices.Equal(texts, was) {
			t.Error("a book, or places, share memory with what was handed in, or with another answer")
		}
		wantOf(t, l, kept, places, api.OK)
		clear(texts[:cap(texts)])
		wantTexts(t, kept, places, was, api.OK)
		wantOf(t, l, kept, places, api.OK)
	}
}

func TestP3SameAgain(t *testing.T) {
	l := sample(60)
	book, codes, _ := dict.Of(l)
	var all sync.WaitGroup
	for range 8 {
		all.Go(func() {
			for range 100 {
				dict.Of(counted(api.MaxList + 1))
				dict.Of(sample(61))
				wantOf(t, l, book, codes, api.OK)
				wantCheck(t, book, api.OK)
				wantTexts(t, book, codes, l, api.OK)
				wantFind(t, book, l[7], int(codes[7]), true, api.OK)
				wantSpan(t, book, l[7], l[7], int(codes[7]), int(codes[7])+1, api.OK)
			}
		})
	}
	all.Wait()
}

func TestP4LongOnes(t *testing.T) {
	many, long := make([]string, 1<<22), strings.Repeat("x", 1<<24)
	for _, l := range [][]string{many, of(long), of("a", long)} {
		if book, codes, e := dict.Of(l); len(book) != 0 || len(codes) != 0 || e != api.ErrMany {
			t.Errorf("Of a long one has error %d", e)
		}
		if e := dict.Check(l); e != api.ErrMany {
			t.Errorf("Check of a long one is %d", e)
		}
		if got, e := dict.Texts(l, nil); len(got) != 0 || e != api.ErrMany {
			t.Errorf("Texts of a long one has error %d", e)
		}
	}
	if got, e := dict.Texts(of("a"), make([]uint64, 1<<22)); len(got) != 0 || e != api.ErrMany {
		t.Errorf("Texts of many places has error %d", e)
	}
	if place, there, e := dict.Find(of("a", "y"), long); place != 1 || there || e != api.OK {
		t.Errorf("Find of a long text = %d %v %d", place, there, e)
	}
	if from, end, e := dict.Span(of("a", "y"), long, long); from != 1 || end != 1 || e != api.OK {
		t.Errorf("Span of a long text = %d %d %d", from, end, e)
	}
}
