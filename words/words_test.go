package words_test

import (
	"encoding/hex"
	"math"
	"slices"
	"strconv"
	"strings"
	"testing"

	"hypostyle/api"
	"hypostyle/words"
)

func in(n uint64) api.Cell { return api.Cell{Kind: api.Number, N: n} }
func tx(s string) api.Cell { return api.Cell{Kind: api.Text, S: s} }

// gone: a Null.
var gone api.Cell

// cell that all of a line is.
func cell(line string) (c api.Cell, ok bool) {
	ok = words.Read(line, func(r *words.Reader) {
		x := r.Cell()
		r.End()
		c = x
	})
	return c, ok
}

func TestV2Kinds(t *testing.T) {
	for word, kind := range map[string]int{"number": api.Number, "text": api.Text, "": 0, "Number": 0, "texts": 0, "null": 0, "1": 0} {
		if g := words.KindOf(word); g != kind {
			t.Errorf("KindOf(%q) = %d, must be %d", word, g, kind)
		}
		if kind != api.Null && words.Kind(kind) != word {
			t.Errorf("Kind(%d) = %q, must be %q", kind, words.Kind(kind), word)
		}
		ok := words.Read(word+" x", func(r *words.Reader) {
			if g := r.Kind(); g != kind {
				t.Errorf("of %q Kind is %d, must be %d", word, g, kind)
			}
		})
		if ok != (kind != api.Null) {
			t.Errorf("of %q Kind gave up: %v", word, !ok)
		}
	}
}

func TestV2Ops(t *testing.T) {
	for op, word := range map[int]string{api.Is: "is", api.Less: "less", api.More: "more", api.Gone: "gone", api.And: "and", api.Or: "or", api.Not: "not"} {
		if words.Op(op) != word || words.OpOf(word) != op {
			t.Errorf("Op(%d) = %q, OpOf(%q) = %d", op, words.Op(op), word, words.OpOf(word))
		}
	}
	for _, word := range []string{"", "Is", "iss", "l", "where", "-", "1"} {
		if g := words.OpOf(word); g != 0 {
			t.Errorf("OpOf(%q) = %d", word, g)
		}
	}
}

func TestV2Cells(t *testing.T) {
	all := []api.Cell{gone, tx(""), tx("\x00\xff- x"), tx(strings.Repeat("w", 300))}
	for bit := range 64 {
		all = append(all, in(1<<bit-1), in(1<<bit), in(1<<bit+1))
	}
	for c := range 256 {
		all = append(all, tx(string([]byte{byte(c)})))
	}
	for _, c := range append(all, in(math.MaxUint64)) {
		s := map[int]string{api.Null: "-", api.Number: strconv.FormatUint(c.N, 10), api.Text: "x" + hex.EncodeToString([]byte(c.S))}[c.Kind]
		if g := words.Cell(c); g != s {
			t.Errorf("Cell(%v) = %q, must be %q", c, g, s)
		}
		if g, ok := cell(s); !ok || g != c {
			t.Errorf("%q is read as %v %v, must be %v", s, g, ok, c)
		}
	}
}

func TestV2NoCells(t *testing.T) {
	for _, s := range []string{
		"", " ", "--", "-1", "+1", "00", "01", "1_0", "0x1", "1e3", "1.0", "a", "X61", "x6", "x6g", "x6A", "x61x", "x 61", "x-", "1 ", " 1", "1x", "\xff",
		"18446744073709551616", "99999999999999999999", strings.Repeat("9", 1000), "1\n", "x61\n",
	} {
		if g, ok := cell(s); ok {
			t.Errorf("%q is read as %v", s, g)
		}
	}
}

// where: the condition that all of a line is.
func where(line string) (l []api.Named, ok bool) {
	ok = words.Read(line, func(r *words.Reader) {
		l = r.Where()
		r.End()
	})
	return l, ok
}

func TestV2Where(t *testing.T) {
	for line, want := range map[string][]api.Named{
		"where":           nil,
		"where id is 5":   {{Op: api.Is, Name: "id", C: in(5)}},
		"where id less x": {{Op: api.Less, Name: "id", C: tx("")}},
		"where id more -": {{Op: api.More, Name: "id"}},
		"where a gone Where gone and not b is x00 or": {{Op: api.Gone, Name: "a"}, {Op: api.Gone, Name: "Where"}, {Op: api.And}, {Op: api.Not}, {Op: api.Is, Name: "b", C: tx("\x00")}, {Op: api.Or}},
		"where and and": {{Op: api.And}, {Op: api.And}},
		"where is is 5": {{Op: api.Is, Name: "is", C: in(5)}},
		"where  gone":   {{Op: api.Gone}},
	} {
		if l, ok := where(line); !ok || !slices.Equal(l, want) {
			t.Errorf("%q is read as %v %v, must be %v", line, l, ok, want)
		}
	}
	for _, line := range []string{"", "when", "Where", "id gone", "where ", "where id", "where id is", "where id is 05", "where id most 5", "where id gone 5", "where id not", "where not gone", "where id gone  not"} {
		if l, ok := where(line); ok {
			t.Errorf("%q is read as %v", line, l)
		}
	}
}

func TestV2Words(t *testing.T) {
	for _, line := range []string{"", " ", "a", "a b", " a", "a ", "a  b", "  ", strings.Repeat("ab ", 100)} {
		want := strings.Split(line, " ")
		ok := words.Read(line, func(r *words.Reader) {
			for at, word := range want {
				if g := r.Word(); g != word {
					t.Errorf("word %d of %q is %q, must be %q", at, line, g, word)
				}
				if more := at < len(want)-1; r.More() != more {
					t.Errorf("behind word %d of %q more are left: %v", at, line, !more)
				}
			}
			r.End()
		})
		if !ok {
			t.Errorf("of %q somebody gave up", line)
		}
		if words.Read(line, func(r *words.Reader) {
			for range len(want) + 1 {
				r.Name()
			}
		}) {
			t.Errorf("of %q more words are read than there are", line)
		}
	}
}

func TestV2Left(t *testing.T) {
	for _, c := range []struct {
		reading func(r *words.Reader)
		ok      bool
	}{
		{func(r *words.Reader) {}, true},
		{func(r *words.Reader) { r.End() }, false},
		{func(r *words.Reader) { r.Word(); r.Word(); r.End() }, false},
		{func(r *words.Reader) { r.Rest(); r.End() }, true},
		{func(r *words.Reader) { r.Rest(); r.Rest() }, false},
		{func(r *words.Reader) { r.Rest(); r.Word() }, false},
		{func(r *words.Reader) { r.Must(r.Word() == "a" && r.Rest() == "7  b") }, true},
		{func(r *words.Reader) { r.Must(r.Word() == "b") }, false},
		{func(r *words.Reader) { r.Word(); r.Must(r.Number() == 7) }, true},
		{func(r *words.Reader) { r.Number() }, false},
		{func(r *words.Reader) { r.Must(len(words.All(r, 9, r.Word)) == 4) }, true},
		{func(r *words.Reader) { r.Must(len(words.All(r, 4, r.Word)) == 4) }, true},
		{func(r *words.Reader) { r.Must(len(words.All(r, 2, r.Word)) == 3 && !r.More()) }, true},
		{func(r *words.Reader) { r.Rest(); r.Must(len(words.All(r, 2, r.Word)) == 0) }, true},
		{func(r *words.Reader) { words.All(r, 1, r.Cell) }, false},
	} {
		if ok := words.Read("a 7  b", c.reading); ok != c.ok {
			t.Errorf("somebody gave up: %v, must be %v", !ok, !c.ok)
		}
	}
}

// What else goes wrong is not held for a line that is not of its form.
func TestP1Others(t *testing.T) {
	defer func() {
		if p := recover(); p != "other" {
			t.Errorf("%v came through the door", p)
		}
	}()
	words.Read("a", func(r *words.Reader) { panic("other") })
	t.Error("nothing came through the door")
}

func TestP4LongOnes(t *testing.T) {
	for _, c := range []struct {
		node string
		ok   bool
	}{{" a gone", true}, {" and", true}, {" ", false}} {
		l, ok := where("where" + strings.Repeat(c.node, 1<<20))
		if ok != c.ok || ok && len(l) != api.MaxCond+1 {
			t.Errorf("of many nodes %q there are %d, %v", c.node, len(l), ok)
		}
	}
	if c, ok := cell("x" + strings.Repeat("61", 1<<22)); !ok || len(c.S) != 1<<22 {
		t.Errorf("a long cell has %d bytes, %v", len(c.S), ok)
	}
}
