package shred_test

import (
	"math"
	"slices"
	"strconv"
	"strings"
	"sync"
	"testing"

	"hypostyle/api"
	"hypostyle/shred"
)

// fields: a form, each field two signs: its rule (r, o or m for Repeated), and how many kids it has.
func fields(s string) []api.Field {
	var form []api.Field
	for _, w := range strings.Fields(s) {
		form = append(form, api.Field{Rule: strings.Index("rom", w[:1]), Kids: int(w[1] - '0')})
	}
	return form
}

// of: a record.
func of(l ...uint64) []uint64 { return l }

// all: a list of records.
func all(l ...[]uint64) [][]uint64 { return l }

// col: a column of levels, of each one Rep, Def and N.
func col(l ...uint64) []api.Level {
	var out []api.Level
	for i := 0; i < len(l); i += 3 {
		out = append(out, api.Level{Rep: int(l[i]), Def: int(l[i+1]), N: l[i+2]})
	}
	return out
}

// cols: a list of columns.
func cols(l ...[]api.Level) [][]api.Level { return l }

// copied: lists of a list, each one anew.
func copied[T any](l [][]T) [][]T {
	var out [][]T
	for _, one := range l {
		out = append(out, slices.Clone(one))
	}
	return out
}

// same: are these the same lists?
func same[T comparable](a, b [][]T) bool { return slices.EqualFunc(a, b, slices.Equal) }

// forms of all kinds.
func forms() [][]api.Field {
	return [][]api.Field{
		fields("r1 r0"), fields("r1 o0"), fields("r1 m0"), fields("r4 r0 o0 m0 r0"), fields("r1 r1 r1 r0"),
		fields("r1 o1 m0"), fields("r1 m1 o0"), fields("r1 m1 m0"), fields("r1 o1 o0"), fields("r1 m2 r0 o0"),
		fields("r2 r0 m2 m0 o0"), fields("r1 m1 m1 m0"), fields("r2 o2 o0 m0 m1 o0"), fields("r2 m1 r0 m1 r0"),
		fields("r1 m2 m2 m0 o0 m1 m0"), fields("r1 o2 m2 r0 m1 m0 r0"), fields("r2 m2 r0 r2 o0 m0 r0"),
		fields("r1 m1 m1 m1 m1 m1 m1 m1 m1 m1 m1 m0"), fields("r4 m4 m0 m0 m0 m0 o3 o0 o0 o0 r0 m0"),
	}
}

// tail: the fields behind the first one of a list, its kids and theirs.
func tail(form []api.Field) []api.Field {
	rest := form[1:]
	for range form[0].Kids {
		rest = tail(rest)
	}
	return rest
}

// leaves: how many fields of a list are leaves.
func leaves(form []api.Field) int {
	many := 0
	for _, f := range form {
		if f.Kids == 0 {
			many++
		}
	}
	return many
}

// kids of the first field of a list, each one with all that is below it.
func kids(form []api.Field) [][]api.Field {
	var out [][]api.Field
	rest := form[1:]
	for range form[0].Kids {
		behind := tail(rest)
		out = append(out, rest[:len(rest)-len(behind)])
		rest = behind
	}
	return out
}

// draw: numbers that look as if they were drawn; the same each time.
type draw uint64

func (d *draw) n(n uint64) uint64 {
	*d = *d*6364136223846793005 + 1442695040888963407
	return uint64(*d) >> 33 % n
}

// made: a record of a form, with at most so many of what may come again.
func made(d *draw, form []api.Field, most uint64) []uint64 {
	var out []uint64
	many := uint64(1)
	switch form[0].Rule {
	case api.Optional:
		many = d.n(2)
		out = append(out, many)
	case api.Repeated:
		many = d.n(most + 1)
		out = append(out, many)
	}
	for range many {
		if form[0].Kids == 0 {
			out = append(out, d.n(3)*(math.MaxUint64/2))
		}
		for _, kid := range kids(form) {
			out = append(out, made(d, kid, most)...)
		}
	}
	return out
}

// step of a way to a leaf: of which rule a field is, whether it is there, and which time.
type step struct {
	rule  int
	there bool
	time  uint64
}

// told: what a record tells a leaf: the way to it, as far as it goes, and the number.
type told struct {
	way []step
	n   uint64
}

// ways: what a record of a form tells each leaf below a way, and what is left of the record.
func ways(form []api.Field, r []uint64, above []step) ([][]told, []uint64) {
	many := uint64(1)
	if form[0].Rule != api.Required {
		many, r = r[0], r[1:]
	}
	out := make([][]told, leaves(form))
	if many == 0 {
		for i := range out {
			out[i] = []told{{way: append(slices.Clone(above), step{rule: form[0].Rule})}}
		}
		return out, r
	}
	for time := range many {
		way := append(slices.Clone(above), step{form[0].Rule, true, time})
		if form[0].Kids == 0 {
			out[0] = append(out[0], told{way, r[0]})
			r = r[1:]
		}
		at := 0
		for _, kid := range kids(form) {
			var below [][]told
			below, r = ways(kid, r, way)
			for _, l := range below {
				out[at] = append(out[at], l...)
				at++
			}
		}
	}
	return out, r
}

// def: how many fields of a way that need not be there are.
func def(way []step) int {
	many := 0
	for _, s := range way {
		if s.there && s.rule != api.Required {
			many++
		}
	}
	return many
}

// rep: how many Repeated fields a way has down to where it first differs from the one before.
func rep(before, way []step) int {
	many := 0
	for i, s := range way {
		if s.rule == api.Repeated {
			many++
		}
		if before[i] != s {
			return many
		}
	}
	return -1
}

// spelt: the columns of records, as the document tells them.
func spelt(form []api.Field, records [][]uint64) [][]api.Level {
	out := make([][]api.Level, leaves(form))
	for _, r := range records {
		columns, _ := ways(form, r, nil)
		for at, l := range columns {
			for i, x := range l {
				level := api.Level{Def: def(x.way), N: x.n}
				if i > 0 {
					level.Rep = rep(l[i-1].way, x.way)
				}
				out[at] = append(out[at], level)
			}
		}
	}
	return out
}

// drawn: lists of records of a form.
func drawn(form []api.Field) [][][]uint64 {
	var out [][][]uint64
	d := draw(len(form))
	for i := range 60 {
		var records [][]uint64
		for range 1 + i%api.MaxRecords {
			if r := made(&d, form, uint64(1+i%4)); len(r) <= api.MaxList {
				records = append(records, r)
			}
		}
		if len(records) > 0 {
			out = append(out, records)
		}
	}
	return out
}

func wantCheck(t *testing.T, form []api.Field, leaves int, e api.Errno) {
	t.Helper()
	if ge := shred.Check(form); ge != e {
		t.Errorf("Check(%v) = %d, must be %d", form, ge, e)
	}
	if g, ge := shred.Leaves(form); g != leaves || ge != e {
		t.Errorf("Leaves(%v) = %d %d, must be %d %d", form, g, ge, leaves, e)
	}
}

func wantShred(t *testing.T, form []api.Field, records [][]uint64, c [][]api.Level, e api.Errno) {
	t.Helper()
	if gc, ge := shred.Shred(form, records); !same(gc, c) || ge != e {
		t.Errorf("Shred(%v, %v) = %v %d, must be %v %d", form, records, gc, ge, c, e)
	}
}

func wantAssemble(t *testing.T, form []api.Field, c [][]api.Level, records [][]uint64, e api.Errno) {
	t.Helper()
	if gr, ge := shred.Assemble(form, c); !same(gr, records) || ge != e {
		t.Errorf("Assemble(%v, %v) = %v %d, must be %v %d", form, c, gr, ge, records, e)
	}
}

// wantBoth: these records and these columns are of one another.
func wantBoth(t *testing.T, form []api.Field, records [][]uint64, c [][]api.Level) {
	t.Helper()
	wantShred(t, form, records, c, api.OK)
	wantAssemble(t, form, c, records, api.OK)
}

func TestN1Check(t *testing.T) {
	for _, c := range []struct {
		form   string
		leaves int
	}{
		{"r1 r0", 1}, {"r1 o0", 1}, {"r1 m0", 1}, {"r2 r0 m0", 2}, {"r4 r0 o0 m0 r0", 4},
		{"r1 r1 r1 r0", 1}, {"r2 r2 r0 r0 r0", 3}, {"r2 r0 r2 r0 r0", 3},
		{"r1 m1 m1 m1 m1 m1 m1 m1 m1 m1 m1 m0", 1},
		{"r4 m4 m0 m0 m0 m0 o3 o0 o0 o0 r0 m0", 9},
	} {
		wantCheck(t, fields(c.form), c.leaves, api.OK)
	}
}

func TestN1CheckErrors(t *testing.T) {
	for _, c := range []struct {
		form []api.Field
		e    api.Errno
	}{
		{nil, api.ErrForm},
		{[]api.Field{}, api.ErrForm},
		{make([]api.Field, 13), api.ErrMany},
		{slices.Repeat([]api.Field{{Rule: 9, Kids: 9}}, 13), api.ErrMany},
		{fields("r1 r1 r1 r1 r1 r1 r1 r1 r1 r1 r1 r1 r0"), api.ErrMany},
		{make([]api.Field, 12), api.ErrForm},
		// Not all there.
		{fields("r1"), api.ErrForm},
		{fields("r2 r0"), api.ErrForm},
		{fields("r2 r1 r0"), api.ErrForm},
		{fields("r4 r0 r0 r0"), api.ErrForm},
		{fields("o1"), api.ErrForm},
		// All there already.
		{fields("r0 r0"), api.ErrForm},
		{fields("o0 o0"), api.ErrForm},
		{fields("r1 r0 r0"), api.ErrForm},
		{fields("m1 r0 r0"), api.ErrForm},
		{fields("r1 r0 r1"), api.ErrForm},
		// The first one.
		{fields("r0"), api.ErrState},
		{fields("o0"), api.ErrState},
		{fields("m0"), api.ErrState},
		{fields("o1 r0"), api.ErrState},
		{fields("m1 r0"), api.ErrState},
		// A field of which several things are wrong.
		{[]api.Field{{Rule: 3, Kids: 5}}, api.ErrKind},
		{[]api.Field{{Rule: 0, Kids: 5}, {Rule: 3}}, api.ErrRange},
		{[]api.Field{{Rule: 0, Kids: 1}, {}, {Rule: 3, Kids: 5}}, api.ErrKind},
		{[]api.Field{{Rule: 0, Kids: 1}, {}, {Rule: 0, Kids: 5}}, api.ErrRange},
		{[]api.Field{{Rule: 0, Kids: 1}, {}, {}, {Rule: 3}}, api.ErrForm},
		{[]api.Field{{Rule: 0, Kids: 2}, {Rule: 3}}, api.ErrKind},
		{[]api.Field{{Rule: 1, Kids: 1}, {Kids: -1}}, api.ErrRange},
		{[]api.Field{{Rule: 1, Kids: 0}, {Kids: -1}}, api.ErrRange},
	} {
		wantCheck(t, c.form, 0, c.e)
	}
}

func TestN1CheckEachPlace(t *testing.T) {
	for _, form := range forms() {
		for at := range form {
			for _, n := range []int{math.MinInt, -1, 3, 1 << 32, math.MaxInt} {
				bad := slices.Clone(form)
				bad[at].Rule = n
				wantCheck(t, bad, 0, api.ErrKind)
			}
			for _, n := range []int{math.MinInt, -1, 5, 1 << 32, math.MaxInt} {
				bad := slices.Clone(form)
				bad[at].Kids = n
				wantCheck(t, bad, 0, api.ErrRange)
			}
			wantCheck(t, form[:at], 0, api.ErrForm)
			if len(form) < api.MaxFields {
				more := slices.Clone(form)
				more[at].Kids = (more[at].Kids + 1) % (api.MaxKids + 1)
				wantCheck(t, more, 0, api.ErrForm)
				wantCheck(t, append(slices.Clone(form), api.Field{}), 0, api.ErrForm)
			}
		}
	}
}

// What is wrong with a form comes ahead of all else.
func TestN1OfEachCall(t *testing.T) {
	for _, c := range []struct {
		form []api.Field
		e    api.Errno
	}{
		{nil, api.ErrForm}, {make([]api.Field, 13), api.ErrMany}, {fields("r0"), api.ErrState},
		{[]api.Field{{Rule: 3}}, api.ErrKind}, {[]api.Field{{Kids: 5}}, api.ErrRange},
	} {
		for _, records := range [][][]uint64{nil, all(of(1)), make([][]uint64, 9), all(make([]uint64, 65))} {
			wantShred(t, c.form, records, nil, c.e)
		}
		for _, l := range [][][]api.Level{nil, cols(nil), cols(col(0, 0, 1)), make([][]api.Level, 99)} {
			wantAssemble(t, c.form, l, nil, c.e)
		}
	}
}

func TestN2Records(t *testing.T) {
	for _, c := range []struct {
		form string
		good [][]uint64
		bad  [][]uint64
	}{
		{"r1 r0", all(of(0), of(5), of(math.MaxUint64)), all(nil, of(), of(1, 1))},
		{"r1 o0", all(of(0), of(1, 0), of(1, 9)), all(nil, of(1), of(0, 0), of(2, 1, 1), of(1, 1, 1), of(math.MaxUint64))},
		{"r1 m0", all(of(0), of(1, 9), of(2, 9, 9), of(3, 0, 0, 0)), all(nil, of(1), of(0, 0), of(2, 1), of(2, 1, 1, 1), of(math.MaxUint64), of(1<<63, 1), of(1<<32, 1))},
		{"r1 m1 o0", all(of(0), of(1, 0), of(2, 0, 1, 7), of(2, 1, 7, 0)), all(of(1), of(1, 1), of(1, 2, 7), of(2, 0), of(2, 0, 1), of(0, 0))},
		{"r1 o1 m0", all(of(0), of(1, 0), of(1, 2, 5, 6)), all(of(1), of(2, 0), of(2, 0, 0), of(1, 2, 5), of(1, 0, 0))},
		{"r2 r0 r0", all(of(1, 2)), all(nil, of(1), of(1, 2, 3))},
		{"r2 m2 r0 o0 r0", all(of(0, 4), of(2, 1, 0, 2, 1, 3, 4)), all(of(0), of(4), of(1, 1, 0), of(1, 1, 2, 2, 4), of(2, 1, 0, 4))},
	} {
		form := fields(c.form)
		for _, r := range c.good {
			wantBoth(t, form, all(r), spelt(form, all(r)))
		}
		for _, r := range c.bad {
			wantShred(t, form, all(r), nil, api.ErrForm)
		}
	}
}

func TestN3Levels(t *testing.T) {
	for _, c := range []struct {
		form    string
		records [][]uint64
		cols    [][]api.Level
	}{
		{"r1 r0", all(of(5)), cols(col(0, 0, 5))},
		{"r1 o0", all(of(0), of(1, 5)), cols(col(0, 0, 0, 0, 1, 5))},
		{"r1 m0", all(of(0), of(1, 5), of(2, 6, 0)), cols(col(0, 0, 0, 0, 1, 5, 0, 1, 6, 1, 1, 0))},
		{"r1 r1 r1 r0", all(of(5), of(0)), cols(col(0, 0, 5, 0, 0, 0))},
		{"r1 o1 o0", all(of(0), of(1, 0), of(1, 1, 9)), cols(col(0, 0, 0, 0, 1, 0, 0, 2, 9))},
		{"r1 m1 m0", all(of(2, 2, 1, 2, 1, 3)), cols(col(0, 2, 1, 2, 2, 2, 1, 2, 3))},
		{"r1 m1 m0", all(of(2, 0, 0), of(0)), cols(col(0, 1, 0, 1, 1, 0, 0, 0, 0))},
		{"r1 o1 m0", all(of(1, 2, 7, 8), of(1, 0), of(0)), cols(col(0, 2, 7, 1, 2, 8, 0, 1, 0, 0, 0, 0))},
		// Of a Repeated leaf in a record of such a one, Rep is where it came again.
		{"r1 m1 m1 m0", all(of(2, 2, 1, 7, 0, 1, 1, 8)), cols(col(0, 3, 7, 2, 2, 0, 1, 3, 8))},
		{"r1 m1 m1 m0", all(of(3, 0, 1, 2, 4, 5, 0)), cols(col(0, 1, 0, 1, 3, 4, 3, 3, 5, 1, 1, 0))},
		// A field that is not there tells all leaves below it.
		{"r2 r0 m2 m0 o0", all(of(10, 2, 2, 20, 21, 0, 0, 1, 80), of(11, 0)), cols(
			col(0, 0, 10, 0, 0, 11), col(0, 2, 20, 2, 2, 21, 1, 1, 0, 0, 0, 0), col(0, 1, 0, 1, 2, 80, 0, 0, 0))},
		{"r2 o2 o0 m0 m1 o0", all(of(1, 1, 3, 2, 8, 9, 2, 0, 1, 5)), cols(col(0, 2, 3), col(0, 2, 8, 1, 2, 9), col(0, 1, 0, 1, 2, 5))},
		{"r2 o2 o0 m0 m1 o0", all(of(0, 0)), cols(col(0, 0, 0), col(0, 0, 0), col(0, 0, 0))},
		{"r4 r0 o0 m0 r0", all(of(7, 1, 8, 2, 9, 9, 4)), cols(col(0, 0, 7), col(0, 1, 8), col(0, 1, 9, 1, 1, 9), col(0, 0, 4))},
		{"r1 m1 m1 m1 m1 m1 m1 m1 m1 m1 m1 m0", all(of(1, 1, 1, 1, 1, 1, 1, 1, 1, 1, 2, 5, 6), of(1, 1, 1, 1, 1, 1, 1, 1, 1, 2, 0, 0)), cols(
			col(0, 11, 5, 11, 11, 6, 0, 10, 0, 10, 10, 0))},
	} {
		wantBoth(t, fields(c.form), c.records, c.cols)
	}
}

func TestN3Each(t *testing.T) {
	for _, form := range forms() {
		for _, records := range drawn(form) {
			wantBoth(t, form, records, spelt(form, records))
		}
	}
}

func TestN3None(t *testing.T) {
	for _, form := range forms() {
		wantBoth(t, form, nil, make([][]api.Level, leaves(form)))
		wantBoth(t, form, all(), slices.Repeat(cols(col()), leaves(form)))
	}
}

func TestN3Errors(t *testing.T) {
	one, list := fields("r1 r0"), fields("r1 m0")
	wantShred(t, one, slices.Repeat(all(of(1)), 9), nil, api.ErrMany)
	wantShred(t, one, make([][]uint64, 9), nil, api.ErrMany)
	wantShred(t, one, make([][]uint64, 8), nil, api.ErrForm)
	wantShred(t, one, all(make([]uint64, 65)), nil, api.ErrMany)
	wantShred(t, one, all(make([]uint64, 64)), nil, api.ErrForm)
	wantShred(t, list, all(append(of(64), make([]uint64, 64)...)), nil, api.ErrMany)
	// Record by record.
	wantShred(t, one, all(of(1), make([]uint64, 65), nil), nil, api.ErrMany)
	wantShred(t, one, all(of(1), nil, make([]uint64, 65)), nil, api.ErrForm)
	wantShred(t, one, all(make([]uint64, 65), nil), nil, api.ErrMany)
	for at := range 8 {
		records := slices.Repeat(all(of(1)), 8)
		records[at] = of(1, 1)
		wantShred(t, one, records, nil, api.ErrForm)
	}
}

// The most that records may be.
func TestN3Most(t *testing.T) {
	full := append(of(63), make([]uint64, 63)...)
	column := append(col(0, 1, 0), slices.Repeat(col(1, 1, 0), 62)...)
	wantBoth(t, fields("r1 m0"), all(full), cols(column))
	wantBoth(t, fields("r1 m0"), slices.Repeat(all(full), 8), cols(slices.Repeat(column, 8)))
	wantBoth(t, fields("r1 m1 o0"), all(full), cols(append(col(0, 1, 0), slices.Repeat(col(1, 1, 0), 62)...)))
}

func TestN4Many(t *testing.T) {
	// One record of 65 numbers, and a ninth record.
	wantAssemble(t, fields("r1 m0"), cols(append(col(0, 1, 0), slices.Repeat(col(1, 1, 0), 63)...)), nil, api.ErrForm)
	wantAssemble(t, fields("r1 r0"), cols(slices.Repeat(col(0, 0, 0), 8)), slices.Repeat(all(of(0)), 8), api.OK)
	wantAssemble(t, fields("r1 r0"), cols(slices.Repeat(col(0, 0, 0), 9)), nil, api.ErrForm)
	wantAssemble(t, fields("r1 m0"), cols(slices.Repeat(col(0, 0, 0), 9)), nil, api.ErrForm)
	// How often a field is counts too: 21 times three numbers, and one ahead.
	form := fields("r1 m2 o0 o0")
	there, not := slices.Repeat(col(1, 2, 7), 21), slices.Repeat(col(1, 1, 0), 21)
	there[0].Rep, not[0].Rep = 0, 0
	wantAssemble(t, form, cols(there, not), all(append(of(21), slices.Repeat(of(1, 7, 0), 21)...)), api.OK)
	there[20], not[20] = api.Level{Rep: 1, Def: 2}, api.Level{Rep: 1, Def: 2}
	wantAssemble(t, form, cols(there, not), nil, api.ErrForm)
}

func TestN4NoSuchColumns(t *testing.T) {
	for _, form := range forms() {
		for many := range leaves(form) + 4 {
			if many != leaves(form) {
				wantAssemble(t, form, make([][]api.Level, many), nil, api.ErrForm)
				wantAssemble(t, form, slices.Repeat(cols(col(0, 0, 0)), many), nil, api.ErrForm)
			}
		}
	}
}

// wantSound: of columns there are no records, or those that have just these.
func wantSound(t *testing.T, form []api.Field, c [][]api.Level) bool {
	t.Helper()
	was := copied(c)
	records, e := shred.Assemble(form, c)
	if !same(was, c) {
		t.Fatalf("Assemble changed columns %v", was)
	}
	if e == api.OK {
		wantShred(t, form, records, c, api.OK)
		return true
	}
	if e != api.ErrForm || len(records) != 0 {
		t.Errorf("Assemble(%v, %v) = %v %d", form, c, records, e)
	}
	return false
}

// less: a level whose Rep and Def are so much less.
func less(l api.Level, rep, def int) api.Level {
	return api.Level{Rep: l.Rep - rep, Def: l.Def - def, N: l.N}
}

// Of columns with a level more, less, or another one, there are no records, or others.
func TestN4Changed(t *testing.T) {
	for _, form := range forms() {
		for _, records := range drawn(form) {
			c := spelt(form, records)
			for at, column := range c {
				for i, old := range column {
					for _, l := range []api.Level{{}, {Rep: 1, Def: 1}, less(old, -1, 0), less(old, 1, 0), less(old, 0, -1), less(old, 0, 1), less(old, 2*old.Rep, 2*old.Def), {Rep: old.Rep, Def: old.Def, N: old.N + 1}, {Rep: math.MinInt, Def: math.MaxInt}, {Rep: math.MaxInt, Def: math.MinInt}} {
						column[i] = l
						wantSound(t, form, c)
					}
					column[i] = old
				}
				c[at] = column[:len(column)-1]
				wantSound(t, form, c)
				c[at] = append(slices.Clone(column), column[0])
				wantSound(t, form, c)
				c[at] = column
			}
		}
	}
}

// lists of at most so many of these.
func lists[T any](of []T, most int) [][]T {
	out := [][]T{nil}
	from := 0
	for range most {
		end := len(out)
		for _, l := range out[from:end] {
			for _, x := range of {
				out = append(out, append(slices.Clone(l), x))
			}
		}
		from = end
	}
	return out
}

// levels: all with Rep and Def from -1 on up to these, and N 0 or 1.
func levels(rep, def int) []api.Level {
	var out []api.Level
	for r := -1; r <= rep; r++ {
		for d := -1; d <= def; d++ {
			out = append(out, api.Level{Rep: r, Def: d}, api.Level{Rep: r, Def: d, N: 1})
		}
	}
	return out
}

// Of each list of short columns there are no records, or those that have just these;
// and of all short records those that have them are found.
func TestN4AllShort(t *testing.T) {
	for _, c := range []struct {
		form           string
		rep, def, many int
		most, found    int
	}{
		{"r1 r0", 1, 1, 3, 4, 15},
		{"r1 o0", 1, 1, 3, 4, 40},
		{"r1 m0", 2, 2, 3, 6, 76},
		{"r1 o1 m0", 2, 3, 3, 6, 129},
		{"r1 m1 m0", 2, 2, 3, 8, 261},
		{"r2 o0 o0", 0, 1, 2, 5, 91},
		{"r1 m2 r0 o0", 1, 2, 2, 7, 93},
	} {
		form := fields(c.form)
		found := 0
		short := lists(levels(c.rep, c.def), c.many)
		if leaves(form) == 1 {
			for _, column := range short {
				if wantSound(t, form, cols(column)) {
					found++
				}
			}
		} else {
			for _, a := range short {
				for _, b := range short {
					if wantSound(t, form, cols(a, b)) {
						found++
					}
				}
			}
		}
		if found != c.found {
			t.Errorf("of %s %d lists of short columns are of records, must be %d", c.form, found, c.found)
		}
		for _, r := range lists(of(0, 1, 2), c.most) {
			if s, e := shred.Shred(form, all(r)); e == api.OK {
				wantAssemble(t, form, s, all(r), api.OK)
			}
		}
	}
}

// key: columns as a text.
func key(c [][]api.Level) string {
	var out strings.Builder
	for _, column := range c {
		for _, l := range column {
			out.WriteString(strconv.Itoa(l.Rep) + "," + strconv.Itoa(l.Def) + "," + strconv.FormatUint(l.N, 10) + " ")
		}
		out.WriteString("; ")
	}
	return out.String()
}

func TestN5NoTwo(t *testing.T) {
	for _, form := range forms() {
		var good [][]uint64
		for _, r := range lists(of(0, 1, 2), 7) {
			if _, e := shred.Shred(form, all(r)); e == api.OK {
				good = append(good, r)
			}
		}
		good = good[:min(len(good), 90)]
		seen := map[string][][]uint64{}
		for _, records := range lists(good, 2) {
			c, e := shred.Shred(form, records)
			if other, ok := seen[key(c)]; ok || e != api.OK {
				t.Errorf("%v and %v have the columns %v (%d)", records, other, c, e)
			}
			seen[key(c)] = records
			wantAssemble(t, form, c, records, api.OK)
		}
	}
}

func TestP1Strange(t *testing.T) {
	d := draw(7)
	numbers := of(0, 1, 2, 3, 63, 64, 65, 1<<32, 1<<63, math.MaxUint64)
	ints := []int{math.MinInt, -1, 0, 1, 2, 3, 4, 5, 64, math.MaxInt}
	some := append(forms(), nil, make([]api.Field, 13))
	for range 20000 {
		form := slices.Clone(some[d.n(uint64(len(some)))])
		if d.n(4) == 0 && len(form) > 0 {
			form[d.n(uint64(len(form)))] = api.Field{Rule: ints[d.n(10)], Kids: ints[d.n(10)]}
		}
		many, e := shred.Leaves(form)
		if e != shred.Check(form) || e == api.OK && many != leaves(form) || e != api.OK && many != 0 {
			t.Errorf("Leaves(%v) = %d %d", form, many, e)
		}
		records := make([][]uint64, d.n(10))
		for i := range records {
			for range d.n(6) {
				records[i] = append(records[i], numbers[d.n(10)])
			}
		}
		if c, f := shred.Shred(form, records); f != api.OK && len(c) != 0 || f == api.OK && len(c) != many || e != api.OK && f != e {
			t.Errorf("Shred(%v, %v) = %v %d", form, records, c, f)
		}
		c := make([][]api.Level, many)
		for i := range c {
			for range d.n(4) {
				c[i] = append(c[i], api.Level{Rep: ints[d.n(10)], Def: ints[d.n(10)], N: numbers[d.n(10)]})
			}
		}
		if r, f := shred.Assemble(form, c); f != api.OK && len(r) != 0 || e != api.OK && f != e {
			t.Errorf("Assemble(%v, %v) = %v %d", form, c, r, f)
		}
	}
}

func TestP2OnlyRead(t *testing.T) {
	for _, form := range forms() {
		for _, records := range drawn(form) {
			room := append(slices.Clone(form), fields("m3 o2 m0")...)
			wasRoom := slices.Clone(room)
			given := append(copied(records), of(9, 9))
			wasGiven := copied(given)
			c, _ := shred.Shred(room[:len(form)], given[:len(records)])
			back := append(copied(c), col(5, 5, 5))
			wasBack := copied(back)
			again, _ := shred.Assemble(room[:len(form)], back[:len(c)])
			if !slices.Equal(room, wasRoom) || !same(given, wasGiven) || !same(back, wasBack) {
				t.Error("what was handed in, or the room behind it, was changed")
			}
			for _, l := range given {
				clear(l)
			}
			for _, l := range back {
				clear(l)
			}
			if !same(c, wasBack[:len(c)]) || !same(again, records) {
				t.Error("an answer changed with what was handed in")
			}
		}
	}
}

func TestP2NewMemory(t *testing.T) {
	for _, form := range forms() {
		for _, records := range drawn(form) {
			c, _ := shred.Shred(form, records)
			r, _ := shred.Assemble(form, c)
			wasC, wasR := copied(c), copied(r)
			for i := range c {
				clear(c[i][:cap(c[i])])
				c[i] = wasC[i]
				if !same(c, wasC) {
					t.Error("two columns share memory")
				}
			}
			if !same(r, wasR) {
				t.Error("records share memory with columns")
			}
			for i := range r {
				clear(r[i][:cap(r[i])])
				r[i] = wasR[i]
				if !same(r, wasR) {
					t.Error("two records share memory")
				}
			}
		}
	}
}

func TestP3SameAgain(t *testing.T) {
	form := fields("r2 r0 m2 m0 o0")
	records := all(of(10, 2, 2, 20, 21, 0, 0, 1, 80), of(11, 0))
	c := spelt(form, records)
	var wait sync.WaitGroup
	for range 8 {
		wait.Go(func() {
			for range 200 {
				shred.Shred(form, all(of(10, 9, 9)))
				shred.Shred(fields("r1 m0"), all(of(1, 1)))
				shred.Assemble(form, cols(c[0], c[2], c[1]))
				wantCheck(t, form, 3, api.OK)
				wantBoth(t, form, records, c)
			}
		})
	}
	wait.Wait()
}

func TestP4LongOnes(t *testing.T) {
	wantMany := func(what string, e, want api.Errno) {
		t.Helper()
		if e != want {
			t.Errorf("%s has error %d, must be %d", what, e, want)
		}
	}
	deep, flat := fields("r1 m1 m1 m1 m1 m1 m1 m1 m1 m1 m1 m0"), fields("r4 m4 m0 m0 m0 m0 o3 o0 o0 o0 r0 m0")
	wantMany("Check of a long form", shred.Check(make([]api.Field, 1<<22)), api.ErrMany)
	_, e := shred.Shred(deep, make([][]uint64, 1<<22))
	wantMany("Shred of many records", e, api.ErrMany)
	_, e = shred.Shred(deep, all(make([]uint64, 1<<22)))
	wantMany("Shred of a long record", e, api.ErrMany)
	_, e = shred.Assemble(deep, make([][]api.Level, 1<<22))
	wantMany("Assemble of many columns", e, api.ErrForm)
	for rep := range 13 {
		for def := range 13 {
			long := slices.Repeat([]api.Level{{Rep: rep, Def: def}}, 1<<16)
			long[0].Rep = 0
			_, e = shred.Assemble(deep, cols(long))
			wantMany("Assemble of a long column", e, api.ErrForm)
			_, e = shred.Assemble(flat, slices.Repeat(cols(long), 9))
			wantMany("Assemble of long columns", e, api.ErrForm)
		}
	}
}
