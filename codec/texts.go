package codec

import (
	"strings"

	"hypostyle/api"
	"hypostyle/bits"
	"hypostyle/dict"
	"hypostyle/front"
	"hypostyle/vary"
)

// The ways of texts stand side by side.
const (
	firstTexts = api.Plain
	lastTexts  = api.Front
)

// sayTexts: what a way of texts says of a list.
func sayTexts(l []string, way int) (string, api.Errno) {
	switch way {
	case api.Plain:
		return sayPlain(l), api.OK
	case api.Book:
		return sayBook(l)
	case api.Front:
		return front.Write(l)
	}
	return "", api.ErrKind
}

// toldTexts: so many texts of what a way says.
func toldTexts(s string, many, way int) ([]string, api.Errno) {
	switch way {
	case api.Plain:
		return toldPlain(s, many)
	case api.Book:
		return toldBook(s, many)
	case api.Front:
		return front.Read(s, many)
	}
	return nil, api.ErrKind
}

// sayPlain: of each text how many bytes it has, and these.
func sayPlain(l []string) string {
	var out []byte
	for _, s := range l {
		out = append(out, vary.Write(uint64(len(s)))...)
		out = append(out, s...)
	}
	return string(out)
}

// next: the text with which plain texts begin, and what is left. It is a copy, so
// that a short text does not hold on to all that it was read of.
func next(s string) (string, string, api.Errno) {
	size, from, e := vary.Read(s)
	if e != api.OK {
		return "", "", e
	}
	if size > api.MaxText {
		return "", "", api.ErrMany
	}
	end := from + int(size)
	if len(s) < end {
		return "", "", api.ErrNone
	}
	return strings.Clone(s[from:end]), s[end:], api.OK
}

// toldPlain: so many texts as they are.
func toldPlain(s string, many int) ([]string, api.Errno) {
	l := make([]string, many)
	for i := range l {
		text, left, e := next(s)
		if e != api.OK {
			return nil, e
		}
		l[i], s = text, left
	}
	if s != "" {
		return nil, api.ErrForm
	}
	return l, api.OK
}

// wideOf: of how many bits the places of a book of so many texts are. Its last place
// alone tells, so that who reads knows it ahead of the places.
func wideOf(book int) int {
	if book == 0 {
		return 0
	}
	return bits.Width([]uint64{uint64(book - 1)})
}

// sayBook: how many texts the book of a list has, the places, and the book.
func sayBook(l []string) (string, api.Errno) {
	book, codes, e := dict.Of(l)
	if e != api.OK {
		return "", e
	}
	places, e := bits.Pack(codes, wideOf(len(book)))
	if e != api.OK {
		return "", e
	}
	texts, e := front.Write(book)
	if e != api.OK {
		return "", e
	}
	return vary.Write(uint64(len(book))) + places + texts, api.OK
}

// toldBook: so many texts, as places of the book that stands behind these.
func toldBook(s string, many int) ([]string, api.Errno) {
	size, from, e := vary.Read(s)
	if e != api.OK {
		return nil, e
	}
	if size > api.MaxList {
		return nil, api.ErrMany
	}
	wide := wideOf(int(size))
	end := from + (many*wide+7)/8
	if len(s) < end {
		return nil, api.ErrNone
	}
	codes, e := bits.Unpack(s[from:end], many, wide)
	if e != api.OK {
		return nil, e
	}
	book, e := front.Read(s[end:], int(size))
	if e != api.OK {
		return nil, e
	}
	return dict.Texts(book, codes)
}
