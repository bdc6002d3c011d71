package plan

import "hypostyle/api"

// What stands between two words, and what ends a line.
const (
	blank = " "
	end   = "\n"
)

// Words of steps.
const (
	add      = "add"
	drop     = "drop"
	rename   = "rename"
	redact   = "redact"
	keep     = "keep"
	wherever = "where"
	number   = "number"
	text     = "text"
)

// How cells are written: what a Null is, what a Text begins with, and the digits of its
// bytes.
const (
	null   = "-"
	sign   = "x"
	digits = "0123456789abcdef"
)

// kindOf a word: Null, which no column has, if it is of none.
func kindOf(word string) int {
	switch word {
	case number:
		return api.Number
	case text:
		return api.Text
	}
	return api.Null
}

// wordOf an op that there is.
func wordOf(op int) string {
	switch op {
	case api.Is:
		return "is"
	case api.Less:
		return "less"
	case api.More:
		return "more"
	case api.Gone:
		return "gone"
	case api.And:
		return "and"
	case api.Or:
		return "or"
	}
	return "not"
}

// opOf a word: 0, which is no op, if it is of none.
func opOf(word string) int {
	for op := api.Is; op <= api.Not; op++ {
		if wordOf(op) == word {
			return op
		}
	}
	return 0
}
