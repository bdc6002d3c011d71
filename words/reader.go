package words

import (
	"strconv"
	"strings"

	"hypostyle/api"
	"hypostyle/nodes"
)

// formless: why somebody reads a line no further.
type formless struct{}

// must: go no further, if something is not of its form.
func must(ok bool) {
	if !ok {
		panic(formless{})
	}
}

// Reader: who reads the words of a line, one by one: a line may have far more of them
// than there is room for at once.
type Reader struct {
	left string
	more bool
}

// Read a line: false, if the reader gave up, as something is not of its form.
func Read(line string, reading func(r *Reader)) (ok bool) {
	defer func() {
		switch p := recover().(type) {
		case nil:
		case formless:
			ok = false
		default:
			panic(p)
		}
	}()
	reading(&Reader{line, true})
	return true
}

// Must: read no further, if something is not of its form.
func (r *Reader) Must(ok bool) { must(ok) }

// More: is a word left?
func (r *Reader) More() bool { return r.more }

// Word: the next one.
func (r *Reader) Word() string {
	must(r.more)
	var word string
	word, r.left, r.more = strings.Cut(r.left, Blank)
	return word
}

// Rest: all words that are left, as they stand; there must be one.
func (r *Reader) Rest() string {
	must(r.more)
	rest := r.left
	r.left, r.more = "", false
	return rest
}

// End: no word may be left.
func (r *Reader) End() { must(!r.more) }

// Name: the next word, whatever it is: what may be a name others tell. It is a copy, so
// that it does not hold on to all that it was read of.
func (r *Reader) Name() string { return strings.Clone(r.Word()) }

// Kind: the next word, which must be that of a column's kind.
func (r *Reader) Kind() int {
	kind := KindOf(r.Word())
	must(kind != api.Null)
	return kind
}

// decimal: the number that a word is, if it is written as Cell writes it: no nought
// ahead of others, and no sign.
func decimal(word string) uint64 {
	n, err := strconv.ParseUint(word, 10, 64)
	must(err == nil && strconv.FormatUint(n, 10) == word)
	return n
}

// Number: the next word, of decimal digits.
func (r *Reader) Number() uint64 { return decimal(r.Word()) }

// valueOf one of the digits.
func valueOf(digit byte) byte {
	n := strings.IndexByte(digits, digit)
	must(n >= 0)
	return byte(n)
}

// bytes that two digits each are.
func bytes(s string) string {
	must(len(s)%2 == 0)
	var b []byte
	for i := 0; i < len(s); i += 2 {
		b = append(b, valueOf(s[i])<<4|valueOf(s[i+1]))
	}
	return string(b)
}

// Cell: the next word as one, a Text of whatever length (V2).
func (r *Reader) Cell() api.Cell {
	word := r.Word()
	if word == null {
		return api.Cell{}
	}
	if s, is := strings.CutPrefix(word, sign); is {
		return api.Cell{Kind: api.Text, S: bytes(s)}
	}
	return api.Cell{Kind: api.Number, N: decimal(word)}
}

// node: the next one of a condition.
func (r *Reader) node() api.Named {
	word := r.Name()
	if op := OpOf(word); nodes.Parts(op) > 0 {
		return api.Named{Op: op}
	}
	n := api.Named{Op: OpOf(r.Word()), Name: word}
	switch n.Op {
	case api.Is, api.Less, api.More:
		n.C = r.Cell()
	default:
		must(n.Op == api.Gone)
	}
	return n
}

// Where: a condition, with its word ahead: all that is left of a line. How its nodes must stand, and
// how many there must be, others tell.
func (r *Reader) Where() []api.Named {
	must(r.Word() == Where)
	return All(r, api.MaxCond, r.node)
}

// All that is read one by one, until no word is left. Of more than so many things one
// alone is kept: that they are too many is told by it.
func All[T any](r *Reader, most int, one func() T) []T {
	var l []T
	for r.More() {
		x := one()
		if len(l) <= most {
			l = append(l, x)
		}
	}
	return l
}
