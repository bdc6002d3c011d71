package rewrite_test

import (
	"fmt"
	"math"
	"slices"
	"strings"
	"sync"
	"testing"

	"hypostyle/api"
	"hypostyle/file"
	"hypostyle/fs"
	"hypostyle/plan"
	"hypostyle/rewrite"
)

func write(name, text string) api.Op { return api.Op{Kind: api.OpWrite, Name: name, Text: text} }
func keep(name string) api.Op        { return api.Op{Kind: api.OpSync, Name: name} }
func rename(name, to string) api.Op  { return api.Op{Kind: api.OpRename, Name: name, To: to} }
func remove(name string) api.Op      { return api.Op{Kind: api.OpRemove, Name: name} }

var dir = api.Op{Kind: api.OpSyncDir}

// ops: a list of them.
func ops(l ...api.Op) []api.Op { return l }

// saved: the ops by which a file is there for good.
func saved(name, text string) []api.Op { return ops(write(name, text), keep(name), dir) }

// played: the file system that ops make.
func played(l ...api.Op) api.FS {
	f, e := fs.Play(api.FS{}, l)
	if e != api.OK {
		panic(e)
	}
	return f
}

func letter(i int) string { return string(rune('a' + i)) }

// full: a file system of so many files, the last one of a name.
func full(many int, last string) api.FS {
	var l []api.Op
	for i := range many - 1 {
		l = append(l, write(letter(i), letter(i)))
	}
	return played(append(l, write(last, "last"), dir)...)
}

// long: a text that is as long as may be.
var long = strings.Repeat("x", api.MaxFile)

// badNames: texts that are no names.
func badNames() []string {
	return []string{"", "abcdefghijklm", "A", "aB", "a b", "a\n", "-", "0", "a1", "Shadow", "\x00", "\xff", strings.Repeat("a", 300)}
}

// wrong: a list that is no file system, and what is told of it.
type wrong struct {
	f api.FS
	e api.Errno
}

func wrongs() []wrong {
	one := make([]api.Node, 1)
	return []wrong{
		{api.FS{Nodes: make([]api.Node, 25)}, api.ErrMany},
		{api.FS{Nodes: []api.Node{{Live: long + "x"}}}, api.ErrMany},
		{api.FS{Nodes: one, Dir: []api.Entry{{Name: "A"}}}, api.ErrForm},
		{api.FS{Nodes: one, Dir: []api.Entry{{Name: "shadow"}, {Name: "a"}}}, api.ErrState},
		{api.FS{Nodes: one, Dir: []api.Entry{{Name: "a", Node: 1}}}, api.ErrRange},
		{api.FS{Nodes: one, Synced: []api.Entry{{Name: "a"}, {Name: "shadow"}}}, api.ErrTwice},
		{api.FS{Nodes: one}, api.ErrState},
	}
}

// shown: anything, the beginning of it.
func shown(x any) string {
	s := fmt.Sprint(x)
	return s[:min(len(s), 300)]
}

// same: are they? Lists without elements are the same, nil or not.
func same(a, b api.FS) bool {
	return slices.Equal(a.Nodes, b.Nodes) && slices.Equal(a.Dir, b.Dir) && slices.Equal(a.Synced, b.Synced)
}

func wantSteps(t *testing.T, f api.FS, name, text string, l []api.Op, e api.Errno) {
	t.Helper()
	if g, ge := rewrite.Steps(f, name, text); !slices.Equal(g, l) || ge != e {
		t.Errorf("Steps(%s, %.40q, %.40q) = %s %d, must be %s %d", shown(f), name, text, shown(g), ge, shown(l), e)
	}
}

func wantUndo(t *testing.T, f api.FS, l []api.Op, e api.Errno) {
	t.Helper()
	if g, ge := rewrite.Undo(f); !slices.Equal(g, l) || ge != e {
		t.Errorf("Undo(%s) = %v %d, must be %v %d", shown(f), g, ge, l, e)
	}
}

func wantRecover(t *testing.T, f, out api.FS, e api.Errno) {
	t.Helper()
	if g, ge := rewrite.Recover(f); !same(g, out) || ge != e {
		t.Errorf("Recover(%s) = %s %d, must be %s %d", shown(f), shown(g), ge, shown(out), e)
	}
}

func wantRewrite(t *testing.T, f api.FS, name string, l []api.Step, per, group int, out api.FS, e api.Errno) {
	t.Helper()
	if g, ge := rewrite.Rewrite(f, name, l, per, group); !same(g, out) || ge != e {
		t.Errorf("Rewrite(%s, %.40q, %s, %d, %d) = %s %d, must be %s %d", shown(f), name, shown(l), per, group, shown(g), ge, shown(out), e)
	}
}

func wantRead(t *testing.T, f api.FS, name, text string, e api.Errno) {
	t.Helper()
	if g, ge := fs.Read(f, name); g != text || ge != e {
		t.Errorf("Read(%s, %.40q) = %.40q %d, must be %.40q %d", shown(f), name, g, ge, text, e)
	}
}

// steps that a file gets a text by.
func steps(name, text string) []api.Op {
	return ops(write(api.Shadow, text), keep(api.Shadow), rename(api.Shadow, name), dir)
}

// draw: numbers that look as if they were drawn; the same each time.
type draw uint64

func (d *draw) n(n int) int {
	*d = *d*6364136223846793005 + 1442695040888963407
	return int(uint64(*d) >> 33 % uint64(n))
}

// mask of any bits.
func (d *draw) mask() uint64 { return uint64(d.n(1<<31))<<33 ^ uint64(d.n(1<<31)) }

// name of a file, Shadow among them.
func (d *draw) name() string { return []string{"a", "b", "c", "d", "zz", api.Shadow}[d.n(6)] }

// fs: a file system that any ops made.
func (d *draw) fs() api.FS {
	f := api.FS{}
	for range d.n(40) {
		name, text := d.name(), letter(d.n(26))
		l := [][]api.Op{saved(name, text), ops(write(name, text)), ops(keep(name)), ops(dir), ops(remove(name)), ops(rename(name, d.name()))}[d.n(6)]
		if g, e := fs.Play(f, l); e == api.OK {
			f = g
		}
	}
	return f
}

func TestX1Steps(t *testing.T) {
	for _, f := range []api.FS{
		{}, played(saved("a", "old")...), played(write("shadow", "s")), played(saved("shadow", "s")...), full(23, "x"), full(24, "shadow"),
	} {
		for _, name := range []string{"a", "z", "abcdefghijkl", "shado", "shadows", "shadowshadow"} {
			for _, text := range []string{"", "new", "\x00\xff\n", long} {
				wantSteps(t, f, name, text, steps(name, text), api.OK)
			}
		}
	}
}

func TestX1Errors(t *testing.T) {
	for _, c := range wrongs() {
		for _, name := range []string{"a", "A", "shadow"} {
			for _, text := range []string{"x", long + "x"} {
				wantSteps(t, c.f, name, text, nil, c.e)
			}
		}
	}
	hidden := full(24, "shadow")
	hidden.Dir = hidden.Dir[:19]
	for _, f := range []api.FS{{}, full(24, "x"), full(24, "shadow"), hidden} {
		for _, name := range append(badNames(), "shadow") {
			for _, text := range []string{"", "x", long, long + "x"} {
				wantSteps(t, f, name, text, nil, api.ErrForm)
			}
		}
		wantSteps(t, f, "a", long+"x", nil, api.ErrMany)
		wantSteps(t, f, "zz", long+"x", nil, api.ErrMany)
	}
	// A Shadow that is there for good alone has no node to spare.
	for _, f := range []api.FS{full(24, "x"), hidden} {
		wantSteps(t, f, "a", "x", nil, api.ErrMany)
		wantSteps(t, f, "zz", "", nil, api.ErrMany)
	}
}

// All steps played, the file has the text, now and for good, and all others what they had.
func TestX1Played(t *testing.T) {
	var d draw
	for range 3000 {
		f := d.fs()
		name := []string{"a", "b", "zz", "new"}[d.n(4)]
		l, e := rewrite.Steps(f, name, "text")
		g, pe := fs.Play(f, l)
		if e != api.OK || pe != api.OK {
			t.Fatalf("Steps(%v) = %v %d, which Play answers by %d", f, l, e, pe)
		}
		wantRead(t, g, name, "text", api.OK)
		left, _ := fs.Crash(g, 0)
		wantRead(t, left, name, "text", api.OK)
		wantRead(t, g, api.Shadow, "", api.ErrNone)
		if !slices.Equal(g.Dir, g.Synced) {
			t.Errorf("behind %v the directory is not synced: %v", l, g)
		}
		for _, n := range f.Dir {
			if n.Name != name && n.Name != api.Shadow {
				wantRead(t, g, n.Name, f.Nodes[n.Node].Live, api.OK)
			}
		}
	}
}

func TestX2Undo(t *testing.T) {
	for _, c := range wrongs() {
		wantUndo(t, c.f, nil, c.e)
		wantRecover(t, c.f, api.FS{}, c.e)
	}
	for _, f := range []api.FS{
		{}, played(saved("a", "old")...), played(write("shado", ""), write("shadows", "")), full(24, "x"),
		played(append(saved("shadow", "s"), rename("shadow", "a"))...), played(append(saved("shadow", "s"), remove("shadow"))...),
	} {
		wantUndo(t, f, ops(dir), api.OK)
	}
	for _, f := range []api.FS{
		played(write("shadow", "")), played(saved("shadow", "s")...), full(24, "shadow"), played(write("a", "x"), dir, rename("a", "shadow")),
	} {
		wantUndo(t, f, ops(remove("shadow"), dir), api.OK)
	}
}

func TestX2Recover(t *testing.T) {
	a := played(saved("a", "old")...)
	for _, c := range []struct{ f, out api.FS }{
		{api.FS{}, api.FS{}},
		{a, a},
		{played(write("shadow", "s")), api.FS{}},
		{played(saved("shadow", "s")...), api.FS{}},
		{played(append(saved("a", "old"), saved("shadow", "s")...)...), a},
		{played(append(saved("a", "old"), write("shadow", "s"))...), a},
		{played(append(saved("shadow", "old"), rename("shadow", "a"))...), a},
		{played(append(saved("a", "old"), remove("a"))...), api.FS{}},
		{played(write("a", "x")), played(write("a", "x"), dir)},
		{full(24, "shadow"), func() api.FS {
			f := full(24, "x")
			f.Nodes, f.Dir, f.Synced = f.Nodes[:23], f.Dir[:23], f.Synced[:23]
			return f
		}()},
	} {
		wantRecover(t, c.f, c.out, api.OK)
	}
	var d draw
	for range 2000 {
		f := d.fs()
		l, _ := rewrite.Undo(f)
		out, e := fs.Play(f, l)
		wantRecover(t, f, out, e)
		// What is taken back already stays.
		wantRecover(t, out, out, api.OK)
		wantRead(t, out, api.Shadow, "", api.ErrNone)
	}
}

func in(n uint64) api.Cell { return api.Cell{Kind: api.Number, N: n} }
func tx(s string) api.Cell { return api.Cell{Kind: api.Text, S: s} }

var gone api.Cell

// birds: a table of three rows.
func birds() api.Table {
	return api.Table{
		Cols: []api.Column{{Name: "id", Kind: api.Number}, {Name: "name", Kind: api.Text}},
		Data: [][]api.Cell{{in(1), in(2), in(9)}, {tx("rook"), gone, tx("wren")}},
	}
}

// wide: a table that is as great as may be.
func wide() api.Table {
	var t api.Table
	for c := range api.MaxCols {
		var cells []api.Cell
		for r := range api.MaxRows {
			cells = append(cells, tx(strings.Repeat(letter(r%26), 7)+strings.Repeat(letter(r/26), 8)+letter(c)))
		}
		t.Cols = append(t.Cols, api.Column{Name: letter(c), Kind: api.Text})
		t.Data = append(t.Data, cells)
	}
	return t
}

// text of a table, as a file.
func text(t api.Table, per, group int) string {
	s, e := file.Write(t, per, group)
	if e != api.OK {
		panic(e)
	}
	return s
}

// parsed: a plan.
func parsed(s string) []api.Step {
	l, e := plan.Parse(s)
	if e != api.OK {
		panic(e)
	}
	return l
}

// plans that do something to birds, and the tables that they make.
func plans() map[string]api.Table {
	id, name := birds().Cols[0], birds().Cols[1]
	all := birds().Data
	return map[string]api.Table{
		"":                       birds(),
		"drop name\n":            {Cols: []api.Column{id}, Data: all[:1]},
		"drop name\ndrop id\n":   {},
		"keep where id more 1\n": {Cols: birds().Cols, Data: [][]api.Cell{all[0][1:], all[1][1:]}},
		"keep where id is 7\n":   {Cols: birds().Cols, Data: [][]api.Cell{nil, nil}},
		"add more number 7\nredact name where id is 1\nrename id key\n": {
			Cols: []api.Column{{Name: "key", Kind: api.Number}, name, {Name: "more", Kind: api.Number}},
			Data: [][]api.Cell{all[0], {gone, gone, tx("wren")}, {in(7), in(7), in(7)}},
		},
	}
}

func TestX3Rewrite(t *testing.T) {
	for _, old := range []string{text(birds(), 1, 1), text(birds(), 2, 2), text(birds(), 64, 128)} {
		f := played(append(saved("birds", old), append(saved("other", "x"), write("third", "y"), write("shadow", "s"))...)...)
		for s, is := range plans() {
			for _, size := range [][2]int{{1, 1}, {2, 2}, {3, 4}, {64, 128}} {
				out, _ := fs.Play(f, steps("birds", text(is, size[0], size[1])))
				wantRewrite(t, f, "birds", parsed(s), size[0], size[1], out, api.OK)
				wantRead(t, out, "birds", text(is, size[0], size[1]), api.OK)
				wantRead(t, out, "other", "x", api.OK)
				wantRead(t, out, "third", "y", api.OK)
				wantRead(t, out, "shadow", "", api.ErrNone)
			}
		}
	}
	// What the file has now is read, not what it has for good.
	f := played(append(saved("birds", "bad"), write("birds", text(birds(), 2, 2)))...)
	wantRewrite(t, f, "birds", nil, 2, 2, played(saved("birds", text(birds(), 2, 2))...), api.OK)
	wantRewrite(t, f, "birds", parsed("drop id\ndrop name\n"), 2, 2, played(saved("birds", text(api.Table{}, 2, 2))...), api.OK)
}

func TestX3Errors(t *testing.T) {
	table := text(birds(), 2, 2)
	f := played(append(saved("birds", table), write("bad", "x"), write("cut", table[:len(table)-1]), write("shadow", table), write("wide", text(wide(), 64, 128)), write("sum", strings.Replace(table, "rook", "roof", 1)))...)
	none := f
	none.Dir = none.Dir[1:] // without bad, which is there for good alone
	none.Synced = slices.Concat([]api.Entry{{Name: "bad", Node: f.Dir[0].Node}}, f.Synced)
	lost := parsed("drop zz\n")
	many := full(24, "x")
	many.Nodes[0].Live = table
	for _, c := range wrongs() {
		wantRewrite(t, c.f, "a", lost, 0, 0, api.FS{}, c.e)
		wantRewrite(t, c.f, "zz", nil, 2, 2, api.FS{}, c.e)
	}
	for _, c := range []struct {
		f          api.FS
		name       string
		l          []api.Step
		per, group int
		e          api.Errno
	}{
		// Of Read of a file system.
		{f, "zz", lost, 0, 0, api.ErrNone},
		{f, "", nil, 2, 2, api.ErrNone},
		{f, "A", nil, 2, 2, api.ErrNone},
		{none, "bad", nil, 2, 2, api.ErrNone},
		{api.FS{}, "shadow", nil, 2, 2, api.ErrNone},
		// Of Read of a file.
		{f, "bad", lost, 0, 0, api.ErrForm},
		{f, "cut", nil, 2, 2, api.ErrForm},
		{f, "sum", lost, 0, 0, api.ErrSum},
		// Of Apply.
		{f, "birds", lost, 0, 0, api.ErrNone},
		{f, "birds", make([]api.Step, 9), 0, 0, api.ErrMany},
		{f, "birds", append(lost, api.Step{}), 0, 0, api.ErrKind},
		{f, "birds", parsed("rename id name\n"), 0, 0, api.ErrTwice},
		{f, "shadow", lost, 2, 2, api.ErrNone},
		{many, "a", lost, 2, 2, api.ErrNone},
		// Of Write.
		{f, "birds", nil, 0, 2, api.ErrRange},
		{f, "birds", nil, 65, 2, api.ErrRange},
		{f, "birds", nil, 2, 0, api.ErrRange},
		{f, "birds", nil, 2, 129, api.ErrRange},
		{f, "shadow", nil, 2, -1, api.ErrRange},
		{many, "a", nil, math.MinInt, math.MaxInt, api.ErrRange},
		{f, "wide", nil, 2, 15, api.ErrMany},
		{f, "wide", nil, 1, 17, api.ErrMany},
		// Of Steps.
		{f, "shadow", nil, 2, 2, api.ErrForm},
		{f, "wide", nil, 1, 16, api.ErrMany},
		{many, "a", nil, 2, 2, api.ErrMany},
	} {
		wantRewrite(t, c.f, c.name, c.l, c.per, c.group, api.FS{}, c.e)
	}
	if s, e := file.Write(wide(), 1, 16); e != api.OK || len(s) <= api.MaxFile {
		t.Errorf("the wide table has but %d bytes, and %d", len(s), e)
	}
}

// forGood: what each file has that is there for good: under one name now and for good,
// and no other text now than for good.
func forGood(f api.FS) map[string]string {
	was := map[string]string{}
	for _, n := range f.Dir {
		if node := f.Nodes[n.Node]; n.Name != api.Shadow && node.Live == node.Synced && slices.Contains(f.Synced, n) {
			was[n.Name] = node.Live
		}
	}
	return was
}

// named: has a directory such an entry, now or for good?
func named(f api.FS, name string) bool {
	is := func(n api.Entry) bool { return n.Name == name }
	return slices.ContainsFunc(f.Dir, is) || slices.ContainsFunc(f.Synced, is)
}

// wantLanded: is a file system what one may be that was to get a text, behind Recover?
func wantLanded(t *testing.T, before, f api.FS, name, text string, whole bool) {
	t.Helper()
	for other, old := range forGood(before) {
		g, e := fs.Read(f, other)
		if e != api.OK || other != name && g != old || other == name && g != text && (whole || g != old) {
			t.Fatalf("of %v, where %s was to get %q, there is %v", before, name, text, f)
		}
	}
	g, e := fs.Read(f, name)
	if whole && (e != api.OK || g != text) || !named(before, name) && e == api.OK && g != text {
		t.Fatalf("of %v, where %s was to get %q, there is %v", before, name, text, f)
	}
	if fs.Check(f) != api.OK || named(f, api.Shadow) {
		t.Fatalf("of %v, where %s was to get %q, there is %v", before, name, text, f)
	}
}

// cut: what is left, if so many of some ops are played ahead of a crash.
func cut(t *testing.T, f api.FS, l []api.Op, many int, mask uint64) api.FS {
	t.Helper()
	g, e := fs.Play(f, l[:many])
	if e != api.OK {
		t.Fatalf("Play(%v, %v) is %d", f, l[:many], e)
	}
	left, e := fs.Crash(g, mask)
	if e != api.OK {
		t.Fatalf("Crash(%v) is %d", g, e)
	}
	return left
}

// masks: all that are not the same to so many nodes.
func masks(nodes int) []uint64 {
	var l []uint64
	for m := range uint64(1) << nodes {
		l = append(l, m, 1<<63|m)
	}
	return l
}

// Wherever the crash comes, whatever lands, and wherever one comes in the midst of
// mending it.
func TestX4All(t *testing.T) {
	for _, f := range []api.FS{
		{},
		played(saved("a", "old")...),
		played(append(saved("a", "old"), saved("b", "other")...)...),
		played(append(saved("a", "old"), saved("shadow", "s")...)...),
		played(append(saved("a", "old"), write("shadow", "s"))...),
		played(append(append(saved("a", "old"), saved("shadow", "s")...), remove("shadow"))...),
		played(append(append(saved("a", "old"), saved("shadow", "s")...), rename("shadow", "b"))...),
		played(append(append(saved("b", "other"), saved("shadow", "s")...), rename("shadow", "a"))...),
		played(append(append(saved("b", "other"), saved("a", "old")...), write("a", "now"))...),
	} {
		for _, name := range []string{"a", "b", "new"} {
			l, _ := rewrite.Steps(f, name, "text")
			for many := range len(l) + 1 {
				for _, mask := range masks(len(f.Nodes) + 1) {
					left := cut(t, f, l, many, mask)
					mended, _ := rewrite.Recover(left)
					wantLanded(t, f, mended, name, "text", many == len(l))
					undo, _ := rewrite.Undo(left)
					for some := range len(undo) + 1 {
						for _, again := range masks(len(left.Nodes)) {
							mended, _ := rewrite.Recover(cut(t, left, undo, some, again))
							wantLanded(t, f, mended, name, "text", many == len(l))
						}
					}
				}
			}
		}
	}
}

func TestX4Drawn(t *testing.T) {
	var d draw
	told := map[string]int{}
	for range 20000 {
		f := d.fs()
		name := []string{"a", "b", "c", "zz"}[d.n(4)]
		l, _ := rewrite.Steps(f, name, "text")
		many := d.n(len(l) + 1)
		left := cut(t, f, l, many, d.mask())
		for range d.n(4) {
			undo, _ := rewrite.Undo(left)
			left = cut(t, left, undo, d.n(len(undo)+1), d.mask())
		}
		mended, _ := rewrite.Recover(left)
		wantLanded(t, f, mended, name, "text", many == len(l))
		if old, was := forGood(f)[name]; was {
			g, _ := fs.Read(mended, name)
			told[map[bool]string{true: "old", false: g}[g == old]]++
		}
		// And a crash behind all that takes nothing away.
		again, _ := fs.Crash(mended, d.mask())
		wantLanded(t, f, again, name, "text", many == len(l))
	}
	if told["old"] < 1000 || told["text"] < 1000 || len(told) != 2 {
		t.Errorf("files that were there for good have %v", told)
	}
}

// A table that is rewritten is the old one or the new one, behind a crash.
func TestX4Rewrite(t *testing.T) {
	old := text(birds(), 2, 2)
	f := played(append(saved("birds", old), saved("other", "x")...)...)
	for s, is := range plans() {
		fresh := text(is, 1, 2)
		l, _ := rewrite.Steps(f, "birds", fresh)
		whole, _ := rewrite.Rewrite(f, "birds", parsed(s), 1, 2)
		for _, mask := range masks(3) {
			for many := range len(l) + 1 {
				mended, _ := rewrite.Recover(cut(t, f, l, many, mask))
				wantLanded(t, f, mended, "birds", fresh, many == len(l))
			}
			mended, _ := rewrite.Recover(cut(t, whole, nil, 0, mask))
			wantLanded(t, f, mended, "birds", fresh, true)
		}
	}
}

// Whatever is handed in, of a file system all calls tell alike, and what comes out is one.
func TestP1Strange(t *testing.T) {
	var d draw
	var all []api.FS
	for _, c := range wrongs() {
		all = append(all, c.f)
	}
	for range 100 {
		f := d.fs()
		all = append(all, f)
		// One thing of it another way.
		for _, change := range []func(f *api.FS){
			func(f *api.FS) { f.Nodes = f.Nodes[:len(f.Nodes)/2] },
			func(f *api.FS) { f.Dir = f.Dir[len(f.Dir)/2:] },
			func(f *api.FS) { f.Synced = slices.Concat(f.Synced, f.Dir) },
			func(f *api.FS) { f.Dir, f.Nodes = slices.Concat(f.Dir, make([]api.Entry, 1)), make([]api.Node, 24) },
		} {
			other := f
			change(&other)
			all = append(all, other)
		}
	}
	numbers := []int{math.MinInt, -1, 0, 1, 2, 64, 128, 129, math.MaxInt}
	names := []string{"", "a", "zz", "shadow", "A", "\x00\xff"}
	for _, f := range all {
		e := fs.Check(f)
		for range 20 {
			name, s := names[d.n(6)], []string{"", long, long + "x"}[d.n(3)]
			l, se := rewrite.Steps(f, name, s)
			undo, ue := rewrite.Undo(f)
			mended, re := rewrite.Recover(f)
			out, we := rewrite.Rewrite(f, name, [][]api.Step{nil, make([]api.Step, 2), parsed("drop id\n")}[d.n(3)], numbers[d.n(9)], numbers[d.n(9)])
			if ue != e || re != e || e != api.OK && (se != e || we != e) {
				t.Fatalf("of %v: Check %d, Steps %d, Undo %d, Recover %d, Rewrite %d", f, e, se, ue, re, we)
			}
			if se != api.OK && len(l) != 0 || ue != api.OK && len(undo) != 0 || re != api.OK && !same(mended, api.FS{}) || we != api.OK && !same(out, api.FS{}) {
				t.Fatalf("of %v there is something with an error", f)
			}
			if fs.Check(mended) != api.OK || fs.Check(out) != api.OK {
				t.Fatalf("of %v there is no file system: %v, %v", f, mended, out)
			}
		}
	}
}

// roomy: a file system with spare room behind its lists, and that room.
func roomy() (api.FS, api.FS) {
	all := played(append(saved("birds", text(birds(), 2, 2)), write("more", "x"), keep("more"), write("shadow", "s"), dir, write("zz", "spare"), dir)...)
	return api.FS{Nodes: all.Nodes[:3], Dir: all.Dir[:3], Synced: all.Synced[:3]}, all
}

func TestP2OnlyRead(t *testing.T) {
	f, all := roomy()
	room := append(parsed("drop name\nkeep where id more 1 id gone or\n"), api.Step{Kind: 9})
	room[1].Where = append(room[1].Where, api.Named{Op: 9})[:3]
	l := room[:2]
	do, _ := rewrite.Steps(f, "birds", "text")
	undo, _ := rewrite.Undo(f)
	mended, _ := rewrite.Recover(f)
	out, e := rewrite.Rewrite(f, "birds", l, 2, 2)
	if _, is := roomy(); !same(all, is) || e != api.OK {
		t.Fatal("a file system, or the room behind its lists, was changed")
	}
	if room[2].Kind != 9 || room[1].Where[:4][3].Op != 9 || room[0].Name != "name" || room[1].Where[0].Name != "id" {
		t.Fatal("a plan, or the room behind its lists, was changed")
	}
	clear(all.Nodes)
	clear(all.Dir)
	clear(all.Synced)
	clear(room[1].Where)
	clear(room)
	f, _ = roomy()
	wantSteps(t, f, "birds", "text", do, api.OK)
	wantUndo(t, f, undo, api.OK)
	wantRecover(t, f, mended, api.OK)
	wantRewrite(t, f, "birds", parsed("drop name\nkeep where id more 1 id gone or\n"), 2, 2, out, api.OK)
}

// spoil a list, and the room behind it.
func spoil[T any](l []T, with T) {
	l = l[:cap(l)]
	for at := range l {
		l[at] = with
	}
}

func TestP2NewMemory(t *testing.T) {
	one, _ := rewrite.Steps(api.FS{}, "a", "x")
	undo, _ := rewrite.Undo(api.FS{})
	spoil(one, api.Op{Kind: 9})
	spoil(undo, api.Op{Kind: 9})
	wantSteps(t, api.FS{}, "a", "x", steps("a", "x"), api.OK)
	wantUndo(t, api.FS{}, ops(dir), api.OK)
	for _, call := range []func(f api.FS) (api.FS, api.Errno){
		rewrite.Recover,
		func(f api.FS) (api.FS, api.Errno) { return rewrite.Rewrite(f, "birds", nil, 2, 2) },
		func(f api.FS) (api.FS, api.Errno) { return rewrite.Rewrite(f, "birds", parsed("drop id\n"), 4, 16) },
	} {
		f, all := roomy()
		want, e := call(f)
		if e != api.OK {
			t.Fatalf("there is %d", e)
		}
		for which := range 3 {
			g, _ := call(f)
			if which != 0 {
				spoil(g.Nodes, api.Node{Live: "spoilt"})
				g.Nodes = want.Nodes
			}
			if which != 1 {
				spoil(g.Dir, api.Entry{Name: "spoilt", Node: 7})
				g.Dir = want.Dir
			}
			if which != 2 {
				spoil(g.Synced, api.Entry{Name: "spoilt", Node: 8})
				g.Synced = want.Synced
			}
			if !same(g, want) {
				t.Error("two lists share memory")
			}
			if _, is := roomy(); !same(all, is) {
				t.Error("an answer shares memory with what was handed in")
			}
		}
	}
}

func TestP3SameAgain(t *testing.T) {
	f, _ := roomy()
	l := parsed("drop name\n")
	mended, _ := rewrite.Recover(f)
	out, _ := rewrite.Rewrite(f, "birds", l, 2, 2)
	var all sync.WaitGroup
	for i := range 8 {
		all.Go(func() {
			d := draw(i)
			for range 100 {
				other := d.fs()
				rewrite.Steps(other, d.name(), "other")
				rewrite.Recover(other)
				rewrite.Rewrite(f, d.name(), nil, 1, 1)
				rewrite.Rewrite(f, "birds", nil, 1, 1)
				wantSteps(t, f, "a", "text", steps("a", "text"), api.OK)
				wantUndo(t, f, ops(remove("shadow"), dir), api.OK)
				wantRecover(t, f, mended, api.OK)
				wantRewrite(t, f, "birds", l, 2, 2, out, api.OK)
			}
		})
	}
	all.Wait()
}

func TestP4LongOnes(t *testing.T) {
	rest := strings.Repeat("a", 1<<24)
	f, _ := roomy()
	wantSteps(t, f, rest, rest, nil, api.ErrForm)
	wantSteps(t, f, "a", rest, nil, api.ErrMany)
	wantRewrite(t, f, rest, nil, 2, 2, api.FS{}, api.ErrNone)
	wantRewrite(t, f, "birds", make([]api.Step, 1<<20), 2, 2, api.FS{}, api.ErrMany)
	many := api.FS{Nodes: make([]api.Node, 1<<20), Dir: make([]api.Entry, 1<<20)}
	wantSteps(t, many, "a", "x", nil, api.ErrMany)
	wantUndo(t, many, nil, api.ErrMany)
	wantRecover(t, many, api.FS{}, api.ErrMany)
	wantRewrite(t, many, "a", nil, 2, 2, api.FS{}, api.ErrMany)
}
