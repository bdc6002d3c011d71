package plan

import (
	"strconv"
	"strings"

	"hypostyle/api"
)

// formless: why somebody reads a plan no further.
type formless struct{}

// must: go no further, if something is not of its form.
func must(ok bool) {
	if !ok {
		panic(formless{})
	}
}

// valueOf one of the digits.
func valueOf(digit byte) byte {
	n := strings.IndexByte(digits, digit)
	must(n >= 0)
	return byte(n)
}

// bytes that two digits each are.
func bytes(s string) string {
	must(len(s)%2 == 0)
	var b []byte
	for i := 0; i < len(s); i += 2 {
		b = append(b, valueOf(s[i])<<4|valueOf(s[i+1]))
	}
	return string(b)
}

// decimal: the number that a word is, if it is written as Print writes it: no nought
// ahead of others, and no sign.
func decimal(word string) uint64 {
	n, err := strconv.ParseUint(word, 10, 64)
	must(err == nil && strconv.FormatUint(n, 10) == word)
	return n
}

// reader: who reads the words of a line.
type reader struct{ left []string }

// word: the next one.
func (r *reader) word() string {
	must(len(r.left) > 0)
	word := r.left[0]
	r.left = r.left[1:]
	return word
}

// name: the next word, whatever it is: what may be a name Check tells. It is a copy, so
// that it does not hold on to all that it was read of.
func (r *reader) name() string { return strings.Clone(r.word()) }

// kind: the next word, which must be that of a column's kind.
func (r *reader) kind() string {
	word := r.name()
	must(kindOf(word) != api.Null)
	return word
}

// cell: the next word as one, a Text of whatever length (V2).
func (r *reader) cell() api.Cell {
	word := r.word()
	if word == null {
		return api.Cell{}
	}
	if s, is := strings.CutPrefix(word, sign); is {
		return api.Cell{Kind: api.Text, S: bytes(s)}
	}
	return api.Cell{Kind: api.Number, N: decimal(word)}
}

// node: the next one of a condition.
func (r *reader) node() api.Named {
	word := r.name()
	if op := opOf(word); !leaf(op) {
		return api.Named{Op: op}
	}
	n := api.Named{Op: opOf(r.word()), Name: word}
	switch n.Op {
	case api.Is, api.Less, api.More:
		n.C = r.cell()
	default:
		must(n.Op == api.Gone)
	}
	return n
}

// where: a condition, which is all that is left of a line. How its nodes must stand Check
// tells.
func (r *reader) where() []api.Named {
	must(r.word() == wherever)
	var l []api.Named
	for len(r.left) > 0 {
		l = append(l, r.node())
	}
	return l
}

// step: the one that all of a line is.
func (r *reader) step() api.Step {
	var s api.Step
	switch r.word() {
	case add:
		s = api.Step{Kind: api.StepAdd, Name: r.name(), To: r.kind(), C: r.cell()}
	case drop:
		s = api.Step{Kind: api.StepDrop, Name: r.name()}
	case rename:
		s = api.Step{Kind: api.StepRename, Name: r.name(), To: r.name()}
	case redact:
		s = api.Step{Kind: api.StepRedact, Name: r.name(), Where: r.where()}
	case keep:
		s = api.Step{Kind: api.StepKeep, Where: r.where()}
	default:
		must(false)
	}
	must(len(r.left) == 0)
	return s
}

// steps that a text is, if it is of their form; nobody has checked them.
func steps(s string) (l []api.Step, e api.Errno) {
	defer func() {
		switch p := recover().(type) {
		case nil:
		case formless:
			l, e = nil, api.ErrForm
		default:
			panic(p)
		}
	}()
	for s != "" {
		line, rest, ended := strings.Cut(s, end)
		must(ended)
		r := reader{strings.Split(line, blank)}
		l = append(l, r.step())
		s = rest
	}
	return l, api.OK
}

// Parse: the plan of a text (V3).
func Parse(s string) ([]api.Step, api.Errno) {
	if len(s) > api.MaxPlan {
		return nil, api.ErrMany
	}
	l, e := steps(s)
	if e != api.OK {
		return nil, e
	}
	if e := Check(l); e != api.OK {
		return nil, e
	}
	return l, api.OK
}
