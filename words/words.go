// Package words: words of lines, as plans and the desk have them: kinds, ops and cells.
package words

import (
	"strconv"

	"hypostyle/api"
)

// What stands between two words, and between two lines or behind each one.
const (
	Blank = " "
	End   = "\n"
)

// Where: the word ahead of a condition.
const Where = "where"

// Words of kinds.
const (
	number = "number"
	text   = "text"
)

// How cells are written: what a Null is, what a Text begins with, and the digits of its
// bytes.
const (
	null   = "-"
	sign   = "x"
	digits = "0123456789abcdef"
)

// Kind: the word of a column's kind.
func Kind(kind int) string {
	if kind == api.Number {
		return number
	}
	return text
}

// KindOf a word: Null, which no column has, if it is of none.
func KindOf(word string) int {
	switch word {
	case number:
		return api.Number
	case text:
		return api.Text
	}
	return api.Null
}

// Op: the word of an op that there is.
func Op(op int) string {
	switch op {
	case api.Is:
		return "is"
	case api.Less:
		return "less"
	case api.More:
		return "more"
	case api.Gone:
		return "gone"
	case api.And:
		return "and"
	case api.Or:
		return "or"
	}
	return "not"
}

// OpOf a word: 0, which is no op, if it is of none.
func OpOf(word string) int {
	for op := api.Is; op <= api.Not; op++ {
		if Op(op) == word {
			return op
		}
	}
	return 0
}

// Cell: a cell as a word (V2).
func Cell(c api.Cell) string {
	switch c.Kind {
	case api.Number:
		return strconv.FormatUint(c.N, 10)
	case api.Text:
		b := []byte(sign)
		for i := range len(c.S) {
			b = append(b, digits[c.S[i]>>4], digits[c.S[i]&15])
		}
		return string(b)
	}
	return null
}
