package plan_test

import (
	"encoding/hex"
	"math"
	"slices"
	"strconv"
	"strings"
	"sync"
	"testing"

	"hypostyle/api"
	"hypostyle/plan"
	"hypostyle/table"
)

// of: a list of cells.
func of(l ...api.Cell) []api.Cell { return l }

// all: a condition, node by node.
func all(l ...api.Named) []api.Named { return l }

// steps: a plan.
func steps(l ...api.Step) []api.Step { return l }

func in(n uint64) api.Cell { return api.Cell{Kind: api.Number, N: n} }
func tx(s string) api.Cell { return api.Cell{Kind: api.Text, S: s} }

// gone: a Null.
var gone api.Cell

// wide: a text of the most bytes.
var wide = strings.Repeat("w", api.MaxText)

func is(name string, c api.Cell) api.Named { return api.Named{Op: api.Is, Name: name, C: c} }
func less(name string, c api.Cell) api.Named {
	return api.Named{Op: api.Less, Name: name, C: c}
}
func more(name string, c api.Cell) api.Named {
	return api.Named{Op: api.More, Name: name, C: c}
}
func null(name string) api.Named { return api.Named{Op: api.Gone, Name: name} }

var and, or, not = api.Named{Op: api.And}, api.Named{Op: api.Or}, api.Named{Op: api.Not}

func add(name, to string, c api.Cell) api.Step {
	return api.Step{Kind: api.StepAdd, Name: name, To: to, C: c}
}
func drop(name string) api.Step       { return api.Step{Kind: api.StepDrop, Name: name} }
func rename(name, to string) api.Step { return api.Step{Kind: api.StepRename, Name: name, To: to} }
func redact(name string, where ...api.Named) api.Step {
	return api.Step{Kind: api.StepRedact, Name: name, Where: where}
}
func keep(where ...api.Named) api.Step { return api.Step{Kind: api.StepKeep, Where: where} }

func num(name string) api.Column { return api.Column{Name: name, Kind: api.Number} }
func txt(name string) api.Column { return api.Column{Name: name, Kind: api.Text} }

// cols: a list of columns.
func cols(l ...api.Column) []api.Column { return l }

// tab: a table of columns and their cells.
func tab(c []api.Column, data ...[]api.Cell) api.Table { return api.Table{Cols: c, Data: data} }

// birds: a table of three columns and five rows, each time another one.
func birds() api.Table {
	return tab(cols(num("id"), txt("name"), num("seen")),
		of(in(1), in(2), in(9), gone, in(5)),
		of(tx("rook"), gone, tx("wren"), tx("rook"), tx("")),
		of(in(7), in(7), gone, in(0), in(math.MaxUint64)))
}

// draw: numbers that look as if they were drawn; the same each time.
type draw uint64

func (d *draw) n(n int) int {
	*d = *d*6364136223846793005 + 1442695040888963407
	return int(uint64(*d) >> 33 % uint64(n))
}

// name of a column, mostly one of birds.
func (d *draw) name() string {
	return []string{"id", "name", "seen", "a", "where", "abcdefghijkl"}[d.n(6)]
}

// cell of a kind, but no Null.
func (d *draw) cell(kind int) api.Cell {
	if kind == api.Number {
		return in(uint64(d.n(12)) << (d.n(2) * d.n(60)))
	}
	return tx(("\x00\xff\n -x09afz" + wide)[d.n(9):][:d.n(17)])
}

// condition of so many leaves.
func (d *draw) condition(leaves int) []api.Named {
	var p []api.Named
	for i := range leaves {
		n := api.Named{Op: 1 + d.n(4), Name: d.name()}
		if n.Op != api.Gone {
			n.C = d.cell(1 + d.n(2))
		}
		p = append(p, n)
		if d.n(3) == 0 {
			p = append(p, not)
		}
		if i > 0 {
			p = append(p, api.Named{Op: api.And + d.n(2)})
		}
	}
	return p
}

// step: any one.
func (d *draw) step() api.Step {
	switch kind := 1 + d.n(2); d.n(5) {
	case 0:
		return add(d.name(), []string{"", "number", "text"}[kind], []api.Cell{gone, d.cell(kind)}[d.n(2)])
	case 1:
		return drop(d.name())
	case 2:
		return rename(d.name(), d.name())
	case 3:
		return redact(d.name(), d.condition(1+d.n(5))...)
	}
	return keep(d.condition(1 + d.n(5))...)
}

// plan of up to so many steps.
func (d *draw) plan(most int) []api.Step {
	var l []api.Step
	for range d.n(most + 1) {
		l = append(l, d.step())
	}
	return l
}

// same plans? Lists without elements are the same, nil or not.
func same(a, b []api.Step) bool {
	return slices.EqualFunc(a, b, func(x, y api.Step) bool {
		return x.Kind == y.Kind && x.Name == y.Name && x.To == y.To && x.C == y.C && slices.Equal(x.Where, y.Where)
	})
}

// sameTable: are they?
func sameTable(a, b api.Table) bool {
	return slices.Equal(a.Cols, b.Cols) && slices.EqualFunc(a.Data, b.Data, slices.Equal[[]api.Cell])
}

func wantCheck(t *testing.T, l []api.Step, e api.Errno) {
	t.Helper()
	if g := plan.Check(l); g != e {
		t.Errorf("Check(%v) = %d, must be %d", l, g, e)
	}
}

func wantPrint(t *testing.T, l []api.Step, s string, e api.Errno) {
	t.Helper()
	if g, ge := plan.Print(l); g != s || ge != e {
		t.Errorf("Print(%v) = %.200q %d, must be %.200q %d", l, g, ge, s, e)
	}
}

func wantParse(t *testing.T, s string, l []api.Step, e api.Errno) {
	t.Helper()
	if g, ge := plan.Parse(s); !same(g, l) || ge != e {
		t.Errorf("Parse(%.200q) = %v %d, must be %v %d", s, g, ge, l, e)
	}
}

func wantApply(t *testing.T, is api.Table, l []api.Step, out api.Table, e api.Errno) {
	t.Helper()
	if g, ge := plan.Apply(is, l); !sameTable(g, out) || ge != e {
		t.Errorf("Apply(%v, %v) = %v %d, must be %v %d", is, l, g, ge, out, e)
	}
}

// wantWrong: no plan, whatever call is told of it.
func wantWrong(t *testing.T, l []api.Step, e api.Errno) {
	t.Helper()
	wantCheck(t, l, e)
	wantPrint(t, l, "", e)
	wantApply(t, birds(), l, api.Table{}, e)
}

// names that are ones, and that are none.
func goodNames() []string {
	l := []string{"az", "abcdefghijkl", "add", "drop", "rename", "redact", "keep", "where", "number", "text", "x", "iss", "les"}
	for c := 'a'; c <= 'z'; c++ {
		l = append(l, string(c))
	}
	return l
}

func badNames() []string {
	return []string{"", "abcdefghijklm", "A", "aB", "a b", " a", "a ", "a\n", "\n", "-", "0", "a1", "a_b", "\x00", "\u00e9", "\xff", strings.Repeat("a", 300)}
}

// words that are names, but not of a column in a condition.
func words() []string { return []string{"is", "less", "more", "gone", "and", "or", "not"} }

func TestV1Good(t *testing.T) {
	wantCheck(t, nil, api.OK)
	wantCheck(t, slices.Repeat(steps(drop("a")), api.MaxSteps), api.OK)
	for _, name := range append(goodNames(), words()...) {
		for _, s := range steps(add(name, "number", gone), drop(name), rename(name, name), rename("a", name), redact(name, null("a"))) {
			wantCheck(t, steps(s), api.OK)
		}
	}
	for _, name := range goodNames() {
		for _, n := range all(is(name, in(1)), less(name, tx("")), more(name, tx(wide)), null(name)) {
			wantCheck(t, steps(keep(n)), api.OK)
			wantCheck(t, steps(redact("a", n, n, and, not)), api.OK)
		}
	}
	for _, c := range of(gone, in(0), in(math.MaxUint64)) {
		wantCheck(t, steps(add("a", "number", c)), api.OK)
	}
	for _, c := range of(gone, tx(""), tx(wide), tx("\x00\xff\n ")) {
		wantCheck(t, steps(add("a", "text", c)), api.OK)
	}
	for _, p := range [][]api.Named{
		all(null("a"), null("b"), or, not), all(null("a"), null("b"), null("c"), and, or),
		slices.Concat(all(null("a")), slices.Repeat(all(not), 15)),
	} {
		wantCheck(t, steps(keep(p...)), api.OK)
	}
}

func TestV1Drawn(t *testing.T) {
	var d draw
	for range 2000 {
		wantCheck(t, d.plan(api.MaxSteps), api.OK)
	}
}

// wrong: a step, and what is told of it.
type wrong struct {
	s api.Step
	e api.Errno
}

// wrongNames: steps one of whose names is none.
func wrongNames() []wrong {
	var l []wrong
	for _, name := range badNames() {
		for _, s := range steps(add(name, "number", gone), drop(name), rename(name, "a"), rename("a", name), redact(name, null("a"))) {
			l = append(l, wrong{s, api.ErrForm})
		}
		if name != "" {
			l = append(l, wrong{api.Step{Kind: api.StepKeep, Name: name, Where: all(null("a"))}, api.ErrForm})
		}
	}
	for _, name := range append(badNames(), words()...) {
		for _, n := range all(is(name, in(1)), less(name, in(1)), more(name, tx("a")), null(name)) {
			l = append(l, wrong{keep(n), api.ErrForm}, wrong{redact("a", null("a"), n, or), api.ErrForm})
		}
	}
	return l
}

// wrongFields: steps with a field that must be another one.
func wrongFields() []wrong {
	where := all(null("a"))
	return []wrong{
		{add("a", "", gone), api.ErrForm},
		{add("a", "Number", gone), api.ErrForm},
		{add("a", "texts", gone), api.ErrForm},
		{add("a", "null", gone), api.ErrForm},
		{add("a", "number", tx("a")), api.ErrKind},
		{add("a", "text", in(1)), api.ErrKind},
		{add("a", "text", api.Cell{Kind: 3}), api.ErrKind},
		{add("a", "number", api.Cell{Kind: -1}), api.ErrKind},
		{add("a", "number", api.Cell{N: 1}), api.ErrForm},
		{add("a", "number", api.Cell{Kind: api.Number, S: "a"}), api.ErrForm},
		{add("a", "text", api.Cell{Kind: api.Text, N: 1}), api.ErrForm},
		{add("a", "text", tx(wide+"w")), api.ErrMany},
		{api.Step{Kind: api.StepAdd, Name: "a", To: "text", Where: where}, api.ErrForm},
		{api.Step{Kind: api.StepDrop, Name: "a", To: "b"}, api.ErrForm},
		{api.Step{Kind: api.StepDrop, Name: "a", C: in(0)}, api.ErrForm},
		{api.Step{Kind: api.StepDrop, Name: "a", C: api.Cell{S: "a"}}, api.ErrForm},
		{api.Step{Kind: api.StepDrop, Name: "a", Where: where}, api.ErrForm},
		{api.Step{Kind: api.StepRename, Name: "a", To: "b", C: tx("")}, api.ErrForm},
		{api.Step{Kind: api.StepRename, Name: "a", To: "b", Where: where}, api.ErrForm},
		{api.Step{Kind: api.StepRedact, Name: "a", To: "b", Where: where}, api.ErrForm},
		{api.Step{Kind: api.StepRedact, Name: "a", C: in(1), Where: where}, api.ErrForm},
		{api.Step{Kind: api.StepKeep, To: "text", Where: where}, api.ErrForm},
		{api.Step{Kind: api.StepKeep, C: api.Cell{N: 1}, Where: where}, api.ErrForm},
	}
}

// wrongConditions: steps whose condition is none.
func wrongConditions() []wrong {
	var l []wrong
	for _, c := range []struct {
		e api.Errno
		p []api.Named
	}{
		{api.ErrForm, nil},
		{api.ErrForm, all(not)},
		{api.ErrForm, all(and)},
		{api.ErrForm, all(null("a"), or)},
		{api.ErrForm, all(null("a"), null("b"))},
		{api.ErrForm, all(null("a"), not, null("b"))},
		{api.ErrForm, all(null("a"), null("b"), and, and)},
		{api.ErrForm, all(null("a"), api.Named{Op: api.Not, Name: "a"})},
		{api.ErrForm, all(null("a"), api.Named{Op: api.Not, C: in(0)})},
		{api.ErrForm, all(null("a"), null("b"), api.Named{Op: api.And, C: api.Cell{S: "a"}})},
		{api.ErrForm, all(api.Named{Op: api.Gone, Name: "a", C: in(1)})},
		{api.ErrForm, all(api.Named{Op: api.Gone, Name: "a", C: api.Cell{N: 1}})},
		{api.ErrForm, all(is("a", api.Cell{Kind: api.Number, S: "a"}))},
		{api.ErrForm, all(more("a", api.Cell{Kind: api.Text, N: 1}))},
		{api.ErrMany, all(less("a", tx(wide+"w")))},
		{api.ErrKind, all(is("a", gone))},
		{api.ErrKind, all(less("a", api.Cell{N: 1}))},
		{api.ErrKind, all(more("a", api.Cell{Kind: 3}))},
		{api.ErrKind, all(api.Named{})},
		{api.ErrKind, all(api.Named{Op: 8})},
		{api.ErrKind, all(api.Named{Op: -1, Name: "A"})},
		{api.ErrKind, all(api.Named{Op: math.MaxInt})},
		{api.ErrMany, make([]api.Named, 17)},
		{api.ErrMany, slices.Concat(all(null("a")), slices.Repeat(all(not), 16))},
		// Node by node, and of one node what is named first.
		{api.ErrKind, all(null("a"), is("a", gone), null("A"))},
		{api.ErrForm, all(null("a"), null("A"), is("a", gone))},
		{api.ErrForm, all(is("A", gone))},
		{api.ErrForm, all(is("is", tx(wide+"w")))},
		{api.ErrKind, all(null("a"), null("b"), api.Named{Op: 8})},
		{api.ErrForm, all(not, api.Named{Op: 8})},
		{api.ErrMany, slices.Repeat(all(null("A")), 17)},
	} {
		l = append(l, wrong{keep(c.p...), c.e}, wrong{redact("a", c.p...), c.e})
	}
	return l
}

// wrongTwice: steps with two things that are wrong, of which the first one tells.
func wrongTwice() []wrong {
	long := make([]api.Named, 17)
	return []wrong{
		{api.Step{}, api.ErrKind},
		{api.Step{Kind: 6, Name: "A"}, api.ErrKind},
		{api.Step{Kind: -1, To: "A", Where: long}, api.ErrKind},
		{api.Step{Kind: math.MaxInt, C: api.Cell{N: 1}}, api.ErrKind},
		{api.Step{Kind: math.MinInt}, api.ErrKind},
		{add("A", "number", tx("a")), api.ErrForm},
		{add("a", "numbers", tx(wide+"w")), api.ErrForm},
		{add("a", "numbers", api.Cell{Kind: 3}), api.ErrForm},
		{api.Step{Kind: api.StepAdd, Name: "a", To: "number", C: tx("a"), Where: long}, api.ErrKind},
		{api.Step{Kind: api.StepAdd, Name: "a", To: "text", C: tx(wide + "w"), Where: all(null("a"))}, api.ErrMany},
		{api.Step{Kind: api.StepRedact, Name: "A", Where: long}, api.ErrForm},
		{api.Step{Kind: api.StepRedact, Name: "a", To: "b", Where: long}, api.ErrForm},
		{api.Step{Kind: api.StepRedact, Name: "a", C: in(1), Where: all(api.Named{})}, api.ErrForm},
		{api.Step{Kind: api.StepKeep, Name: "a", Where: long}, api.ErrForm},
		{api.Step{Kind: api.StepKeep, To: "a", Where: long}, api.ErrForm},
		{api.Step{Kind: api.StepKeep, C: in(1), Where: all(api.Named{})}, api.ErrForm},
	}
}

// wrongs: all of them.
func wrongs() []wrong {
	return slices.Concat(wrongNames(), wrongFields(), wrongConditions(), wrongTwice())
}

func TestV1Errors(t *testing.T) {
	for _, c := range wrongs() {
		wantWrong(t, steps(c.s), c.e)
		wantWrong(t, steps(drop("name"), c.s, api.Step{}), c.e)
		wantWrong(t, slices.Concat(slices.Repeat(steps(rename("id", "id")), 7), steps(c.s)), c.e)
		wantWrong(t, slices.Concat(slices.Repeat(steps(rename("id", "id")), 8), steps(c.s)), api.ErrMany)
	}
	wantWrong(t, steps(api.Step{}, drop("A")), api.ErrKind)
	wantWrong(t, steps(drop("A"), api.Step{}), api.ErrForm)
	wantWrong(t, make([]api.Step, 9), api.ErrMany)
}

// line: a plan of one step, and its text.
type line struct {
	s    api.Step
	text string
}

// lines of every kind.
func lines() []line {
	return []line{
		{add("note", "number", in(0)), "add note number 0\n"},
		{add("note", "number", in(10)), "add note number 10\n"},
		{add("note", "number", in(math.MaxUint64)), "add note number 18446744073709551615\n"},
		{add("note", "number", gone), "add note number -\n"},
		{add("note", "text", gone), "add note text -\n"},
		{add("note", "text", tx("")), "add note text x\n"},
		{add("note", "text", tx("\x00\x09\x10\x7f\xaf\xff")), "add note text x0009107fafff\n"},
		{add("note", "text", tx("- x5 and so on\n\n")), "add note text x2d20783520616e6420736f206f6e0a0a\n"},
		{add("add", "text", tx(wide)), "add add text x77777777777777777777777777777777\n"},
		{drop("id"), "drop id\n"},
		{drop("drop"), "drop drop\n"},
		{rename("id", "key"), "rename id key\n"},
		{rename("is", "not"), "rename is not\n"},
		{redact("name", less("id", in(5))), "redact name where id less 5\n"},
		{redact("where", null("where")), "redact where where where gone\n"},
		{redact("gone", null("name"), not), "redact gone where name gone not\n"},
		{keep(is("id", in(7))), "keep where id is 7\n"},
		{keep(more("name", tx("rook"))), "keep where name more x726f6f6b\n"},
		{keep(less("number", tx(""))), "keep where number less x\n"},
		{keep(null("x"), null("keep"), and), "keep where x gone keep gone and\n"},
		{keep(is("id", in(1)), not, is("id", in(2)), null("b"), or, and), "keep where id is 1 not id is 2 b gone or and\n"},
	}
}

func TestV2Lines(t *testing.T) {
	for _, c := range lines() {
		wantPrint(t, steps(c.s), c.text, api.OK)
		wantParse(t, c.text, steps(c.s), api.OK)
		for _, other := range lines() {
			wantPrint(t, steps(c.s, other.s, c.s), c.text+other.text+c.text, api.OK)
			wantParse(t, c.text+other.text+c.text, steps(c.s, other.s, c.s), api.OK)
		}
	}
	wantPrint(t, nil, "", api.OK)
	wantParse(t, "", nil, api.OK)
}

func TestV2Bytes(t *testing.T) {
	for c := range 256 {
		b := string([]byte{byte(c)})
		wantPrint(t, steps(add("a", "text", tx(b))), "add a text x"+hex.EncodeToString([]byte(b))+"\n", api.OK)
		wantPrint(t, steps(keep(is("a", tx("a"+b)))), "keep where a is x61"+hex.EncodeToString([]byte(b))+"\n", api.OK)
	}
	for bit := range 64 {
		for _, n := range []uint64{1<<bit - 1, 1 << bit, 1<<bit + 1} {
			s := "add a number " + strconv.FormatUint(n, 10) + "\n"
			wantPrint(t, steps(add("a", "number", in(n))), s, api.OK)
			wantParse(t, s, steps(add("a", "number", in(n))), api.OK)
		}
	}
}

// long: a plan whose text has but few bytes less than it may have.
func long() []api.Step {
	var p []api.Named
	for i := range 8 {
		p = append(p, is("abcdefghij", tx(wide)))
		if i > 0 {
			p = append(p, or)
		}
	}
	return steps(keep(p...), keep(p...), keep(p...), keep(p...), keep(p[:7]...), keep(p[:3]...))
}

// grown: a plan with steps more, whose text has so many bytes more.
func grown(l []api.Step, bytes int) []api.Step {
	for bytes > 0 {
		size := min(bytes, len("drop abcdefghijkl\n"))
		if left := bytes - size; left > 0 && left < len("drop a\n") {
			size -= len("drop a\n")
		}
		l = append(l, drop("abcdefghijkl"[:size-len("drop \n")]))
		bytes -= size
	}
	return l
}

func TestV3Longest(t *testing.T) {
	short := long()
	s, e := plan.Print(short)
	if e != api.OK || len(s) > api.MaxPlan-7 || len(s) < api.MaxPlan-30 {
		t.Fatalf("Print of a long plan has %d bytes, %d", len(s), e)
	}
	for size := len(s) + 7; size <= api.MaxPlan; size++ {
		l := grown(short, size-len(s))
		g, e := plan.Print(l)
		if e != api.OK || len(g) != size {
			t.Fatalf("Print has %d bytes, %d, must have %d", len(g), e, size)
		}
		wantParse(t, g, l, api.OK)
	}
	for size := api.MaxPlan + 1; size < api.MaxPlan+8; size++ {
		l := grown(short, size-len(s))
		wantCheck(t, l, api.OK)
		wantPrint(t, l, "", api.ErrMany)
		text := s + strings.Repeat("drop a\n", 20)
		wantParse(t, text[:size], nil, api.ErrMany)
	}
	for _, s := range []string{strings.Repeat(" ", 2001), strings.Repeat("\n", 2001), strings.Repeat("drop a\n", 286)} {
		wantParse(t, s, nil, api.ErrMany)
	}
	wantParse(t, strings.Repeat(" ", 2000), nil, api.ErrForm)
	wantParse(t, strings.Repeat("drop a\n", 285), nil, api.ErrMany)
	wantParse(t, strings.Repeat("drop a\n", 285)+"a", nil, api.ErrForm)
}

// noPlans: texts that are no plan.
func noPlans() []string {
	return []string{
		"\n", " ", " \n", "\n\n", "x", "drop", "drop\n", "drop id", "drop id \n", " drop id\n", "drop  id\n", "drop id\n\n", "\ndrop id\n",
		"drop id\ndrop id", "drop id drop id\n", "drop id name\n", "drop\tid\n", "drop id\r\n", "Drop id\n", "drops id\n", "drop\nid\n", "drop id\x00\n",
		"rename\n", "rename id\n", "rename id \n", "rename id key more\n", "rename id  key\n", "rename id to key\n", "rename id key \n",
		"add\n", "add note\n", "add note number\n", "add note number \n", "add note 5\n", "add note other 5\n", "add note Number 5\n", "add note  number 5\n",
		"add note number 5 5\n", "add note number 5 \n", "add number 5\n", "add note is 5\n", "add note 1 5\n",
		"redact\n", "redact name\n", "redact where id gone\n", "redact name id gone\n", "redact name when id gone\n", "redact name where\n", "redact name where \n",
		"keep\n", "keep id gone\n", "keep name where id gone\n", "keep where\n", "keep where \n", "keep where id\n", "keep where id more\n", "keep where id more \n",
		"keep where id most 5\n", "keep where id 5\n", "keep where 5 is id\n", "keep where id gone gone\n", "keep where id gone 5\n", "keep where id is\n",
		"keep where id is is\n", "keep where id is 5 6\n", "keep where id not\n", "keep where id and id\n", "keep where id is 5  not\n", "keep where id is 5 not \n",
		"keep where  id is 5\n", "keep where id is 5 id\n", "keep where not not\n", "keep where is is 5\n", "keep where gone gone\n", "keep where and gone\n",
		"keep where id is 5 name gone\n", "keep where id is 5 and\n", "keep where not\n", "keep where (id is 5)\n", "keep where id = 5\n", "keep where where id gone\n",
	}
}

// noCells: words that are no CELL.
func noCells() []string {
	return []string{
		"", "--", "-5", "-0", "+5", "05", "00", "007", "1.0", "1e3", "0x10", "1_000", "5-", "5x", "a", "five", "null", "18446744073709551616",
		"99999999999999999999", "184467440737095516150", strings.Repeat("9", 500), "0" + strings.Repeat("0", 500), "x6", "x616", "xg0", "x0g", "xAB", "xaB",
		"x 61", "x-", "x+1", "xx61", "x6\x00", "X61", "61x", "\"a\"", "\u0661", "x\u0661", "\xff", "x\xff\xff",
	}
}

func TestV3NoPlans(t *testing.T) {
	texts := noPlans()
	for _, c := range noCells() {
		texts = append(texts, "add a number "+c+"\n", "add a text "+c+"\n", "keep where a is "+c+"\n", "redact a where a gone a less "+c+" or\n")
	}
	for _, s := range texts {
		wantParse(t, s, nil, api.ErrForm)
		wantParse(t, "rename id key\n"+s, nil, api.ErrForm)
	}
}

// What is wrong with a text's form is told ahead of what is wrong with its steps.
func TestV3FormFirst(t *testing.T) {
	nine := strings.Repeat("drop a\n", 9)
	wantParse(t, nine, nil, api.ErrMany)
	for _, s := range []string{
		nine + "drop", nine + "\n", nine + "drop a b\n", "keep\n" + nine, nine + "add a number 05\n", nine + "add a other 5\n",
		"add a number x61\ndrop\n", "add a text " + "x" + strings.Repeat("61", 17) + "\n\n", "keep where a is -\nkeep where a is x1\n",
	} {
		wantParse(t, s, nil, api.ErrForm)
	}
}

func TestV3ThenCheck(t *testing.T) {
	seventeen := "keep where " + strings.Repeat("a gone ", 16) + "a gone\n"
	for s, e := range map[string]api.Errno{
		"add a number x\n":   api.ErrKind,
		"add a number x61\n": api.ErrKind,
		"add a text 5\n":     api.ErrKind,
		"add a text x" + strings.Repeat("61", 17) + "\n":      api.ErrMany,
		"add a number x" + strings.Repeat("61", 17) + "\n":    api.ErrKind,
		"keep where a is -\n":                                 api.ErrKind,
		"keep where a more -\n":                               api.ErrKind,
		"redact a where a less -\n":                           api.ErrKind,
		"keep where a is x" + strings.Repeat("61", 17) + "\n": api.ErrMany,
		seventeen: api.ErrMany,
		"keep where a gone" + strings.Repeat(" not", 16) + "\n": api.ErrMany,
		"drop A\n":                                                  api.ErrForm,
		"drop abcdefghijklm\n":                                      api.ErrForm,
		"rename a B\n":                                              api.ErrForm,
		"keep where A gone\n":                                       api.ErrForm,
		"add A number x61\n":                                        api.ErrForm,
		"add a number x61\ndrop A\n":                                api.ErrKind,
		"drop A\nadd a number x61\n":                                api.ErrForm,
		"keep where a is - A gone and\n":                            api.ErrKind,
		strings.Repeat("drop A\n", 9):                               api.ErrMany,
		strings.Repeat("drop a\n", 8) + "add a number x61\n":        api.ErrMany,
		"redact a where a gone a gone\nadd a number x61\n":          api.ErrForm,
		"keep where a is 5 a is x61 and a less 5 not or a gone\n":   api.ErrForm,
		"keep where a is 5 a is x61 and a less 5 not or and\n":      api.ErrForm,
		"keep where a is 5 a is x61 and a less 5 not or is gone\n":  api.ErrForm,
		"keep where a is 5 a is x61 and a less 5 not or not is 5\n": api.ErrForm,
	} {
		wantParse(t, s, nil, e)
	}
}

// done: what the table itself makes of a step, by the columns' places.
func done(is api.Table, s api.Step) (api.Table, api.Errno) {
	var p []api.Cond
	for _, n := range s.Where {
		c := api.Cond{Op: n.Op, C: n.C}
		for n.Name != "" && c.Col < len(is.Cols) && is.Cols[c.Col].Name != n.Name {
			c.Col++
		}
		if n.Name != "" && c.Col == len(is.Cols) {
			return api.Table{}, api.ErrNone
		}
		p = append(p, c)
	}
	switch s.Kind {
	case api.StepAdd:
		kind := map[string]int{"number": api.Number, "text": api.Text}[s.To]
		return table.Add(is, api.Column{Name: s.Name, Kind: kind}, s.C)
	case api.StepDrop:
		return table.Drop(is, s.Name)
	case api.StepRename:
		return table.Rename(is, s.Name, s.To)
	case api.StepRedact:
		return table.Redact(is, s.Name, p)
	}
	return table.Keep(is, p)
}

func TestV4Apply(t *testing.T) {
	b := birds()
	for _, c := range []struct {
		l   []api.Step
		out api.Table
	}{
		{nil, b},
		{steps(drop("name")), tab(cols(num("id"), num("seen")), b.Data[0], b.Data[2])},
		{steps(drop("name"), drop("id"), drop("seen")), api.Table{}},
		{steps(rename("id", "key")), tab(cols(num("key"), txt("name"), num("seen")), b.Data...)},
		{steps(rename("id", "id")), b},
		{steps(rename("id", "a"), rename("name", "id"), rename("a", "name")), tab(cols(num("name"), txt("id"), num("seen")), b.Data...)},
		{steps(drop("id"), drop("seen"), add("id", "text", tx("x"))), tab(cols(txt("name"), txt("id")), b.Data[1], slices.Repeat(of(tx("x")), 5))},
		{steps(drop("seen"), drop("name"), add("note", "number", gone)), tab(cols(num("id"), num("note")), b.Data[0], make([]api.Cell, 5))},
		{steps(drop("seen"), keep(more("id", in(4)))), tab(cols(num("id"), txt("name")), of(in(9), in(5)), of(tx("wren"), tx("")))},
		{steps(drop("seen"), keep(is("name", tx("rook")), null("id"), not, and)), tab(cols(num("id"), txt("name")), of(in(1)), of(tx("rook")))},
		{steps(keep(null("id"), null("id"), not, and)), tab(b.Cols, nil, nil, nil)},
		{steps(drop("name"), redact("id", is("seen", in(7)))), tab(cols(num("id"), num("seen")), of(gone, gone, in(9), gone, in(5)), b.Data[2])},
		{steps(drop("name"), drop("id"), redact("seen", is("seen", in(7)), not)), tab(cols(num("seen")), of(in(7), in(7), gone, gone, gone))},
		{steps(drop("name"), drop("seen"), redact("id", less("id", in(5))), keep(null("id"))), tab(cols(num("id")), of(gone, gone, gone))},
		{steps(drop("id"), keep(is("name", tx("wren"))), drop("name"), add("name", "number", in(3)), keep(is("name", in(3)))), tab(cols(num("seen"), num("name")), of(gone), of(in(3)))},
	} {
		wantApply(t, birds(), c.l, c.out, api.OK)
	}
	wantApply(t, api.Table{}, nil, api.Table{}, api.OK)
	wantApply(t, api.Table{}, steps(add("a", "number", in(1))), tab(cols(num("a")), nil), api.OK)
}

func TestV4Drawn(t *testing.T) {
	var d draw
	told := map[api.Errno]int{}
	for range 20000 {
		l := d.plan(4)
		is, e := birds(), api.OK
		for _, s := range l {
			if is, e = done(is, s); e != api.OK {
				break
			}
		}
		wantApply(t, birds(), l, is, e)
		told[e]++
	}
	if told[api.OK] < 1000 || told[api.ErrNone] < 1000 || told[api.ErrTwice] < 100 || told[api.ErrKind] < 100 {
		t.Errorf("what is told: %v", told)
	}
}

func TestV4Errors(t *testing.T) {
	six := tab(nil)
	for _, name := range []string{"a", "b", "c", "d", "e", "f"} {
		six.Cols, six.Data = append(six.Cols, num(name)), append(six.Data, of(in(1)))
	}
	for _, c := range []struct {
		t api.Table
		l []api.Step
		e api.Errno
	}{
		// Of the table first, then of the plan, then step by step.
		{tab(cols(num("A")), nil), make([]api.Step, 9), api.ErrForm},
		{tab(cols(num("a"))), steps(drop("A")), api.ErrForm},
		{tab(cols(num("a"), num("a")), nil, nil), steps(api.Step{}), api.ErrTwice},
		{tab(cols(num("a")), of(tx("a"))), nil, api.ErrKind},
		{birds(), steps(drop("zz"), api.Step{}), api.ErrKind},
		{birds(), steps(drop("zz"), drop("A")), api.ErrForm},
		{birds(), slices.Repeat(steps(drop("zz")), 9), api.ErrMany},
		{birds(), steps(drop("zz"), add("id", "number", gone)), api.ErrNone},
		{birds(), steps(add("id", "number", gone), drop("zz")), api.ErrTwice},
		{birds(), steps(drop("id"), drop("id")), api.ErrNone},
		{birds(), steps(add("id", "text", tx("a"))), api.ErrTwice},
		{six, steps(add("a", "number", gone)), api.ErrTwice},
		{six, steps(add("g", "number", gone)), api.ErrMany},
		{birds(), steps(rename("zz", "id")), api.ErrNone},
		{birds(), steps(rename("id", "name")), api.ErrTwice},
		// Of a condition each node's column first, then as Redact and Keep.
		{birds(), steps(keep(null("zz"))), api.ErrNone},
		{birds(), steps(redact("zz", null("id"))), api.ErrNone},
		{birds(), steps(redact("zz", is("id", tx("a")))), api.ErrNone},
		{birds(), steps(redact("id", null("zz"))), api.ErrNone},
		{birds(), steps(keep(is("id", tx("a")), null("zz"), or)), api.ErrNone},
		{birds(), steps(keep(is("id", tx("a")))), api.ErrKind},
		{birds(), steps(keep(null("id"), less("name", in(1)), and)), api.ErrKind},
		{birds(), steps(redact("id", more("seen", tx("")))), api.ErrKind},
		{birds(), steps(rename("id", "key"), keep(null("id"))), api.ErrNone},
		{api.Table{}, steps(keep(null("id"))), api.ErrNone},
		{api.Table{}, steps(drop("id")), api.ErrNone},
	} {
		wantApply(t, c.t, c.l, api.Table{}, c.e)
	}
}

func TestV5ReadAsItWas(t *testing.T) {
	var d draw
	for range 5000 {
		l := d.plan(api.MaxSteps)
		s, e := plan.Print(l)
		if e == api.ErrMany && s == "" {
			continue
		}
		if e != api.OK || len(s) > api.MaxPlan {
			t.Fatalf("Print(%v) = %q %d", l, s, e)
		}
		wantParse(t, s, l, api.OK)
	}
}

// Of a plan there is no other text than the one that Print tells.
func TestV5OneText(t *testing.T) {
	text := ""
	for _, c := range lines()[1:8] {
		text += c.text
	}
	texts := []string{text}
	for _, c := range lines()[9:] {
		texts = append(texts, c.text)
	}
	plans := 0
	for _, s := range texts {
		for at := range len(s) {
			for c := range 128 {
				x := s[:at] + string([]byte{byte(c)}) + s[at+1:]
				for _, x := range []string{x, s[:at] + x[at:at+1] + s[at:], s[:at] + s[at+1:]} {
					l, e := plan.Parse(x)
					if e != api.OK {
						wantParse(t, x, nil, e)
						continue
					}
					plans++
					wantPrint(t, l, x, api.OK)
				}
			}
		}
	}
	if plans < 1000 {
		t.Errorf("%d texts are plans", plans)
	}
}

// Two plans, one behind the other, do what all of it does.
func TestV5Joined(t *testing.T) {
	var d draw
	good := 0
	for range 5000 {
		a, b := d.plan(3), d.plan(3)
		first, e := plan.Apply(birds(), a)
		out := api.Table{}
		if e == api.OK {
			out, e = plan.Apply(first, b)
		}
		if e == api.OK {
			good++
		}
		wantApply(t, birds(), slices.Concat(a, b), out, e)
	}
	if good < 500 {
		t.Errorf("%d plans do something", good)
	}
}

// Whatever a plan or a text is, of one thing it is told.
func TestP1Strange(t *testing.T) {
	numbers := []int{math.MinInt, -1, 0, 1, 2, 3, 4, 5, 6, 7, 8, 257, math.MaxInt}
	texts := []string{"", "a", "id", "A", "is", "number", "text", "\x00\xff", wide + "w"}
	cells := of(gone, in(7), tx("a"), api.Cell{N: 1}, api.Cell{S: "a"}, api.Cell{Kind: -1}, api.Cell{Kind: math.MaxInt, N: 1, S: wide + "w"})
	wheres := [][]api.Named{nil, all(null("id")), make([]api.Named, 17)}
	for _, op := range numbers {
		for _, name := range texts {
			for _, c := range cells {
				wheres = append(wheres, all(api.Named{Op: op, Name: name, C: c}))
			}
		}
	}
	for i, kind := range numbers {
		for _, where := range wheres {
			for j, name := range texts {
				s := api.Step{Kind: kind, Name: name, To: texts[(i+j)%len(texts)], C: cells[j%3], Where: where}
				strange(t, s)
				strange(t, api.Step{Kind: kind, Name: name, Where: where})
				strange(t, api.Step{Kind: kind, Where: where})
			}
		}
	}
}

// strange: is a step told alike by all calls?
func strange(t *testing.T, one api.Step) {
	t.Helper()
	l := steps(one)
	e := plan.Check(l)
	s, pe := plan.Print(l)
	is, ae := plan.Apply(birds(), l)
	if pe != e || e != api.OK && (ae != e || s != "") || ae != api.OK && !sameTable(is, api.Table{}) || table.Check(is) != api.OK {
		t.Fatalf("%v: Check %d, Print %q %d, Apply %v %d", l, e, s, pe, is, ae)
	}
	if e == api.OK {
		wantParse(t, s, l, api.OK)
	}
}

func TestP1Cut(t *testing.T) {
	text := ""
	for _, c := range lines()[:8] {
		text += c.text
	}
	for at := range len(text) + 1 {
		for _, s := range []string{text[:at], text[at:], text[at:] + text[:at]} {
			l, e := plan.Parse(s)
			if e != api.OK && len(l) != 0 || e == api.OK && plan.Check(l) != api.OK {
				t.Errorf("Parse(%q) = %v %d", s, l, e)
			}
		}
	}
}

func TestP2OnlyRead(t *testing.T) {
	room := append(steps(rename("id", "key"), redact("name", null("key"), is("seen", in(7)), or), add("note", "text", tx("x"))), drop("spare"))
	room[1].Where = append(room[1].Where, null("spare"))[:3]
	l := room[:3]
	full := birds()
	for i := range full.Data {
		full.Data[i] = append(full.Data[i], in(99))
	}
	is := api.Table{Cols: full.Cols}
	for _, l := range full.Data {
		is.Data = append(is.Data, l[:5])
	}
	plan.Check(l)
	s, _ := plan.Print(l)
	out, _ := plan.Apply(is, l)
	if !same(room, append(slices.Clone(l), drop("spare"))) || room[1].Where[:4][3] != null("spare") || room[0].To != "key" {
		t.Error("a plan, or the room behind its lists, was changed")
	}
	if !sameTable(is, birds()) || full.Data[0][5] != in(99) || full.Data[1][5] != in(99) || full.Data[2][5] != in(99) {
		t.Error("a table, or the room behind its lists, was changed")
	}
	clear(room[1].Where)
	clear(room)
	clear(full.Cols)
	for _, l := range full.Data {
		clear(l)
	}
	if s != "rename id key\nredact name where key gone seen is 7 or\nadd note text x78\n" {
		t.Errorf("Print kept what it was handed: %q", s)
	}
	want := tab(cols(num("key"), txt("name"), num("seen"), txt("note")), birds().Data[0], of(gone, gone, tx("wren"), gone, tx("")), birds().Data[2], slices.Repeat(of(tx("x")), 5))
	if !sameTable(out, want) {
		t.Errorf("Apply kept what it was handed: %v", out)
	}
}

func TestP2NewMemory(t *testing.T) {
	s := "keep where a gone b gone or\nredact a where b is 5\ndrop a\nkeep where a gone not\n"
	want, _ := plan.Parse(s)
	for spoilt := range want {
		l, _ := plan.Parse(s)
		w := l[spoilt].Where[:cap(l[spoilt].Where)]
		for at := range w {
			w[at] = is("spoilt", tx("spoilt"))
		}
		l[spoilt] = want[spoilt]
		if !same(l, want) {
			t.Error("two lists share memory")
		}
		clear(l)
	}
	wantParse(t, s, want, api.OK)
	for _, l := range [][]api.Step{nil, steps(rename("id", "key")), steps(add("note", "number", in(1))), steps(keep(null("id"), not)), steps(redact("id", null("name")))} {
		whole, _ := plan.Apply(birds(), l)
		for but := range whole.Data {
			is := birds()
			g, _ := plan.Apply(is, l)
			for i, l := range g.Data {
				if i != but {
					l = l[:cap(l)]
					for at := range l {
						l[at] = tx("spoilt")
					}
				}
			}
			if !slices.Equal(g.Data[but], whole.Data[but]) {
				t.Error("two lists share memory")
			}
			clear(g.Cols[:cap(g.Cols)])
			clear(g.Data[:cap(g.Data)])
			if !sameTable(is, birds()) {
				t.Error("an answer shares memory with what was handed in")
			}
		}
	}
}

func TestP3SameAgain(t *testing.T) {
	var d draw
	l := steps(rename("id", "key"), redact("name", more("key", in(4))), add("note", "text", tx("x")))
	s, _ := plan.Print(l)
	out, _ := plan.Apply(birds(), l)
	is := birds()
	others := [][]api.Step{d.plan(8), d.plan(8), steps(api.Step{}), make([]api.Step, 9)}
	var workers sync.WaitGroup
	for range 8 {
		workers.Go(func() {
			for i := range 40 {
				text, _ := plan.Print(others[i%4])
				plan.Parse(text + s[i:])
				plan.Apply(is, others[i%4])
				wantCheck(t, l, api.OK)
				wantPrint(t, l, s, api.OK)
				wantParse(t, s, l, api.OK)
				wantApply(t, is, l, out, api.OK)
			}
		})
	}
	workers.Wait()
}

func TestP4LongOnes(t *testing.T) {
	rest := strings.Repeat("a", 1<<24)
	wantWrong(t, make([]api.Step, 1<<20), api.ErrMany)
	wantWrong(t, steps(keep(make([]api.Named, 1<<20)...)), api.ErrMany)
	wantWrong(t, steps(drop(rest)), api.ErrForm)
	wantWrong(t, steps(rename("a", rest)), api.ErrForm)
	wantWrong(t, steps(add("a", rest, gone)), api.ErrForm)
	wantWrong(t, steps(add("a", "text", tx(rest))), api.ErrMany)
	wantWrong(t, steps(keep(is("a", tx(rest)))), api.ErrMany)
	wantWrong(t, steps(keep(null(rest))), api.ErrForm)
	wantParse(t, rest, nil, api.ErrMany)
	wantParse(t, strings.Repeat("drop a\n", 1<<20), nil, api.ErrMany)
	wantApply(t, tab(cols(num("a")), make([]api.Cell, 1<<20)), steps(drop("a")), api.Table{}, api.ErrMany)
}
