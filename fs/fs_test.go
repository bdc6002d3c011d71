package fs_test

import (
	"fmt"
	"maps"
	"math"
	"slices"
	"strings"
	"sync"
	"testing"

	"hypostyle/api"
	"hypostyle/fs"
)

// write, sync, rename, remove: ops of files, and dir, which is of none.
func write(name, text string) api.Op { return api.Op{Kind: api.OpWrite, Name: name, Text: text} }
func keep(name string) api.Op        { return api.Op{Kind: api.OpSync, Name: name} }
func rename(name, to string) api.Op  { return api.Op{Kind: api.OpRename, Name: name, To: to} }
func remove(name string) api.Op      { return api.Op{Kind: api.OpRemove, Name: name} }

var dir = api.Op{Kind: api.OpSyncDir}

// ops: a list of them.
func ops(l ...api.Op) []api.Op { return l }

// nodes: what each one has now, and for good, in turn.
func nodes(texts ...string) []api.Node {
	var l []api.Node
	for i := 0; i < len(texts); i += 2 {
		l = append(l, api.Node{Live: texts[i], Synced: texts[i+1]})
	}
	return l
}

func en(name string, node int) api.Entry { return api.Entry{Name: name, Node: node} }

// list: a directory, entry by entry.
func list(l ...api.Entry) []api.Entry { return l }

// of: a file system.
func of(n []api.Node, now, good []api.Entry) api.FS { return api.FS{Nodes: n, Dir: now, Synced: good} }

// letter: a name for each number below 26.
func letter(i int) string { return string(rune('a' + i)) }

// full: as many files as may be, none of them synced.
func full() api.FS {
	var f api.FS
	for i := range api.MaxNodes {
		f.Nodes = append(f.Nodes, api.Node{Live: letter(i)})
		f.Dir = append(f.Dir, en(letter(i), i))
	}
	return f
}

// long: a text that is as long as may be.
var long = strings.Repeat("x", api.MaxFile)

// badNames: texts that are no names.
func badNames() []string {
	return []string{"", "abcdefghijklm", "A", "aB", "a b", " a", "a ", "a\n", "-", "0", "a1", "a_b", "a.b", "../a", "\x00", "\u00e9", "\xff", strings.Repeat("a", 300)}
}

// shown: anything, the beginning of it.
func shown(x any) string {
	s := fmt.Sprint(x)
	return s[:min(len(s), 300)]
}

// same: are they? Lists without elements are the same, nil or not.
func same(a, b api.FS) bool {
	return slices.Equal(a.Nodes, b.Nodes) && slices.Equal(a.Dir, b.Dir) && slices.Equal(a.Synced, b.Synced)
}

func wantCheck(t *testing.T, f api.FS, e api.Errno) {
	t.Helper()
	if g := fs.Check(f); g != e {
		t.Errorf("Check(%s) = %d, must be %d", shown(f), g, e)
	}
}

func wantRead(t *testing.T, f api.FS, name, text string, e api.Errno) {
	t.Helper()
	if g, ge := fs.Read(f, name); g != text || ge != e {
		t.Errorf("Read(%s, %.40q) = %.40q %d, must be %.40q %d", shown(f), name, g, ge, text, e)
	}
}

func wantDo(t *testing.T, f api.FS, o api.Op, out api.FS, e api.Errno) {
	t.Helper()
	if g, ge := fs.Do(f, o); !same(g, out) || ge != e {
		t.Errorf("Do(%s, %s) = %s %d, must be %s %d", shown(f), shown(o), shown(g), ge, shown(out), e)
	}
}

func wantPlay(t *testing.T, f api.FS, l []api.Op, out api.FS, e api.Errno) {
	t.Helper()
	if g, ge := fs.Play(f, l); !same(g, out) || ge != e {
		t.Errorf("Play(%s, %s) = %s %d, must be %s %d", shown(f), shown(l), shown(g), ge, shown(out), e)
	}
}

func wantCrash(t *testing.T, f api.FS, mask uint64, out api.FS, e api.Errno) {
	t.Helper()
	if g, ge := fs.Crash(f, mask); !same(g, out) || ge != e {
		t.Errorf("Crash(%s, %x) = %s %d, must be %s %d", shown(f), mask, shown(g), ge, shown(out), e)
	}
}

// wantWrong: no file system, whatever call is told of it, and whatever else is wrong.
func wantWrong(t *testing.T, f api.FS, e api.Errno) {
	t.Helper()
	wantCheck(t, f, e)
	for _, name := range []string{"a", "zz", ""} {
		wantRead(t, f, name, "", e)
	}
	for _, o := range ops(dir, write("a", "x"), remove("zz"), api.Op{}, write("A", "x"), write("a", long+"x")) {
		wantDo(t, f, o, api.FS{}, e)
		wantPlay(t, f, ops(o), api.FS{}, e)
	}
	wantPlay(t, f, nil, api.FS{}, e)
	wantPlay(t, f, make([]api.Op, api.MaxOps+1), api.FS{}, e)
	for _, mask := range []uint64{0, 1, 1 << 63, math.MaxUint64} {
		wantCrash(t, f, mask, api.FS{}, e)
	}
}

// inode: what a file of a model has.
type inode struct{ live, synced string }

// model of a file system: its directories lead to what files have, not to places.
type model struct {
	all       []*inode
	now, good map[string]*inode
}

func newModel() *model { return &model{now: map[string]*inode{}, good: map[string]*inode{}} }

// sweep what no directory leads to.
func (m *model) sweep() {
	m.all = slices.DeleteFunc(m.all, func(n *inode) bool {
		for _, l := range []map[string]*inode{m.now, m.good} {
			for _, other := range l {
				if n == other {
					return false
				}
			}
		}
		return true
	})
}

// do an op that is of its form.
func (m *model) do(o api.Op) api.Errno {
	n := m.now[o.Name]
	if n == nil && (o.Kind == api.OpSync || o.Kind == api.OpRename || o.Kind == api.OpRemove) {
		return api.ErrNone
	}
	switch o.Kind {
	case api.OpWrite:
		if n == nil {
			if len(m.all) == api.MaxNodes {
				return api.ErrMany
			}
			n = new(inode)
			m.now[o.Name] = n
			m.all = append(m.all, n)
		}
		n.live = o.Text
	case api.OpSync:
		n.synced = n.live
	case api.OpRename:
		delete(m.now, o.Name)
		m.now[o.To] = n
	case api.OpRemove:
		delete(m.now, o.Name)
	case api.OpSyncDir:
		m.good = maps.Clone(m.now)
	}
	m.sweep()
	return api.OK
}

// crash: what is left.
func (m *model) crash(mask uint64) {
	if mask>>63 == 0 {
		m.now = m.good
	}
	m.good = maps.Clone(m.now)
	for i, n := range m.all {
		if mask>>i%2 == 0 {
			n.live = n.synced
		}
		n.synced = n.live
	}
	m.sweep()
}

// fs: the file system that a model is of.
func (m *model) fs() api.FS {
	var f api.FS
	for _, n := range m.all {
		f.Nodes = append(f.Nodes, api.Node{Live: n.live, Synced: n.synced})
	}
	for _, name := range slices.Sorted(maps.Keys(m.now)) {
		f.Dir = append(f.Dir, en(name, slices.Index(m.all, m.now[name])))
	}
	for _, name := range slices.Sorted(maps.Keys(m.good)) {
		f.Synced = append(f.Synced, en(name, slices.Index(m.all, m.good[name])))
	}
	return f
}

// draw: numbers that look as if they were drawn; the same each time.
type draw uint64

func (d *draw) n(n int) int {
	*d = *d*6364136223846793005 + 1442695040888963407
	return int(uint64(*d) >> 33 % uint64(n))
}

// mask of any bits.
func (d *draw) mask() uint64 { return uint64(d.n(1<<31))<<33 ^ uint64(d.n(1<<31)) }

// op that is of its form, on one of so many files.
func (d *draw) op(files int) api.Op {
	name := letter(d.n(files))
	switch d.n(9) {
	case 0, 1, 2:
		return write(name, letter(d.n(26)))
	case 3, 4:
		return keep(name)
	case 5, 6:
		return rename(name, letter(d.n(files)))
	case 7:
		return remove(name)
	}
	return dir
}

// some: file systems of all sorts, each one made by ops.
func some() []api.FS {
	var d draw
	l := []api.FS{{}, full()}
	for i := range 60 {
		m := newModel()
		for range i {
			m.do(d.op(2 + i%4))
		}
		l = append(l, m.fs())
	}
	return l
}

func TestW1Good(t *testing.T) {
	wantCheck(t, api.FS{}, api.OK)
	wantCheck(t, of([]api.Node{}, list(), list()), api.OK)
	wantCheck(t, full(), api.OK)
	turned := full()
	turned.Dir, turned.Synced = nil, turned.Dir
	wantCheck(t, turned, api.OK)
	for at := range turned.Synced {
		turned.Synced[at].Node = (at + 7) % api.MaxNodes
	}
	turned.Dir = full().Dir
	wantCheck(t, turned, api.OK)
	for _, f := range []api.FS{
		of(nodes(long, ""), list(en("a", 0)), nil),
		of(nodes("", long), nil, list(en("a", 0))),
		of(nodes(long, long, "", ""), list(en("abcdefghijkl", 1), en("b", 0)), list(en("a", 0))),
		of(nodes("", ""), list(en("a", 0)), list(en("b", 0))),
		of(nodes("", "", "", ""), list(en("a", 0)), list(en("a", 1))),
		of(nodes("", "", "", ""), list(en("a", 0), en("aa", 1)), list(en("shadow", 1), en("z", 0))),
		of(nodes("\x00\xff", "\n"), list(en("shadow", 0)), nil),
	} {
		wantCheck(t, f, api.OK)
	}
	for i, f := range some() {
		if e := fs.Check(f); e != api.OK {
			t.Errorf("Check of %d: %v is %d", i, f, e)
		}
	}
}

func TestW1Errors(t *testing.T) {
	for _, c := range []struct {
		f api.FS
		e api.Errno
	}{
		{of(make([]api.Node, api.MaxNodes+1), nil, nil), api.ErrMany},
		{of(append(full().Nodes, api.Node{}), append(full().Dir, en("z", 24)), nil), api.ErrMany},
		{of(nodes(long+"x", ""), list(en("a", 0)), nil), api.ErrMany},
		{of(nodes("", long+"x"), list(en("a", 0)), nil), api.ErrMany},
		{of(nodes("", "", "", "", "", long+"x"), list(en("a", 0), en("b", 1), en("c", 2)), nil), api.ErrMany},
		{of(nodes("", ""), list(en("a", -1)), nil), api.ErrRange},
		{of(nodes("", ""), list(en("a", 1)), nil), api.ErrRange},
		{of(nil, list(en("a", 0)), nil), api.ErrRange},
		{of(nodes("", ""), list(en("a", 0)), list(en("a", 1))), api.ErrRange},
		{of(nodes("", ""), list(en("a", math.MinInt)), nil), api.ErrRange},
		{of(nodes("", ""), list(en("a", math.MaxInt)), nil), api.ErrRange},
		{of(nodes("", "", "", ""), list(en("b", 0), en("a", 1)), nil), api.ErrState},
		{of(nodes("", "", "", ""), list(en("a", 0), en("a", 1)), nil), api.ErrState},
		{of(nodes("", "", "", ""), nil, list(en("b", 0), en("a", 1))), api.ErrState},
		{of(nodes("", "", "", ""), nil, list(en("aa", 0), en("a", 1))), api.ErrState},
		{of(nodes("", "", "", "", "", ""), list(en("a", 0), en("c", 1), en("b", 2)), nil), api.ErrState},
		{of(nodes("", "", "", ""), list(en("a", 0), en("b", 0)), nil), api.ErrTwice},
		{of(nodes("", "", "", ""), list(en("a", 0), en("b", 1), en("c", 0)), nil), api.ErrTwice},
		{of(nodes("", ""), list(en("a", 0)), list(en("a", 0), en("b", 0))), api.ErrTwice},
		{of(nodes("", ""), nil, nil), api.ErrState},
		{of(nodes("", "", "", ""), list(en("a", 1)), list(en("b", 1))), api.ErrState},
		{of(nodes("", "", "", ""), list(en("a", 0)), nil), api.ErrState},
	} {
		wantWrong(t, c.f, c.e)
	}
	for _, name := range badNames() {
		wantWrong(t, of(nodes("", ""), list(en(name, 0)), nil), api.ErrForm)
		wantWrong(t, of(nodes("", ""), list(en("a", 0)), list(en(name, 0))), api.ErrForm)
	}
}

// Of nodes first, then of Dir, then of Synced, in each entry by entry, and of all nodes
// at last.
func TestW1Order(t *testing.T) {
	two := nodes("", "", "", "")
	for _, c := range []struct {
		f api.FS
		e api.Errno
	}{
		{of(nodes(long+"x", ""), list(en("A", 9)), nil), api.ErrMany},
		{of(nodes("", "", "", long+"x"), list(en("b", 0), en("a", 0)), list(en("A", 0))), api.ErrMany},
		{of(two, list(en("A", 9)), nil), api.ErrForm},
		{of(two, list(en("a", 0), en("", 0)), nil), api.ErrForm},
		{of(two, list(en("a", 0), en("A", 1)), nil), api.ErrForm},
		{of(two, list(en("b", 0), en("a", 9)), nil), api.ErrState},
		{of(two, list(en("b", 0), en("a", 0)), nil), api.ErrState},
		{of(two, list(en("a", -1), en("b", -1)), nil), api.ErrRange},
		{of(two, list(en("a", 2), en("A", 0)), nil), api.ErrRange},
		{of(two, list(en("a", 0), en("b", 0), en("A", 0)), nil), api.ErrTwice},
		{of(two, list(en("a", 0), en("b", 0)), list(en("A", 0))), api.ErrTwice},
		{of(two, list(en("a", 2)), list(en("b", 0), en("a", 1))), api.ErrRange},
		{of(two, list(en("a", 0)), list(en("A", 0))), api.ErrForm},
		{of(two, list(en("a", 0)), list(en("b", 0), en("c", 0))), api.ErrTwice},
		{of(two, nil, list(en("b", 0), en("c", 2))), api.ErrRange},
	} {
		wantWrong(t, c.f, c.e)
	}
}

func TestW2Read(t *testing.T) {
	f := of(nodes("now", "good", "", "was", long, "", "gone", "gone"),
		list(en("a", 0), en("abcdefghijkl", 2), en("b", 1)), list(en("a", 1), en("c", 3)))
	wantRead(t, f, "a", "now", api.OK)
	wantRead(t, f, "b", "", api.OK)
	wantRead(t, f, "abcdefghijkl", long, api.OK)
	for _, name := range append(badNames(), "c", "aa", "zz", "shadow") {
		wantRead(t, f, name, "", api.ErrNone)
		wantRead(t, api.FS{}, name, "", api.ErrNone)
	}
	for i, n := range full().Nodes {
		wantRead(t, full(), letter(i), n.Live, api.OK)
	}
}

// done: what a file system is, an op, and what it becomes.
type done struct {
	f   api.FS
	o   api.Op
	out api.FS
}

func wantDone(t *testing.T, l []done) {
	t.Helper()
	for _, c := range l {
		wantDo(t, c.f, c.o, c.out, api.OK)
		wantCheck(t, c.out, api.OK)
	}
}

func TestW2Write(t *testing.T) {
	one := of(nodes("now", "good"), list(en("b", 0)), list(en("b", 0)))
	wantDone(t, []done{
		{api.FS{}, write("a", "new"), of(nodes("new", ""), list(en("a", 0)), nil)},
		{api.FS{}, write("abcdefghijkl", ""), of(nodes("", ""), list(en("abcdefghijkl", 0)), nil)},
		{one, write("b", "new"), of(nodes("new", "good"), list(en("b", 0)), list(en("b", 0)))},
		{one, write("b", ""), of(nodes("", "good"), list(en("b", 0)), list(en("b", 0)))},
		{one, write("b", long), of(nodes(long, "good"), list(en("b", 0)), list(en("b", 0)))},
		{one, write("a", "new"), of(nodes("now", "good", "new", ""), list(en("a", 1), en("b", 0)), list(en("b", 0)))},
		{one, write("c", "\x00\xff\n"), of(nodes("now", "good", "\x00\xff\n", ""), list(en("b", 0), en("c", 1)), list(en("b", 0)))},
		{one, write("bb", "x"), of(nodes("now", "good", "x", ""), list(en("b", 0), en("bb", 1)), list(en("b", 0)))},
		// A name of Synced alone is none: what it has for good stays.
		{of(nodes("", "was"), nil, list(en("a", 0))), write("a", "new"), of(nodes("", "was", "new", ""), list(en("a", 1)), list(en("a", 0)))},
	})
	for i := range api.MaxNodes {
		out := full()
		out.Nodes[i].Live = "new"
		wantDo(t, full(), write(letter(i), "new"), out, api.OK)
	}
}

func TestW2Sync(t *testing.T) {
	two := of(nodes("now", "good", "other", ""), list(en("a", 1), en("b", 0)), list(en("a", 0)))
	wantDone(t, []done{
		{two, keep("a"), of(nodes("now", "good", "other", "other"), two.Dir, two.Synced)},
		{two, keep("b"), of(nodes("now", "now", "other", ""), two.Dir, two.Synced)},
		{of(nodes("", "good"), list(en("a", 0)), nil), keep("a"), of(nodes("", ""), list(en("a", 0)), nil)},
	})
}

func TestW2Rename(t *testing.T) {
	three := of(nodes("0", "", "1", "", "2", ""), list(en("a", 2), en("c", 0), en("e", 1)), list(en("x", 0)))
	wantDone(t, []done{
		{three, rename("a", "b"), of(three.Nodes, list(en("b", 2), en("c", 0), en("e", 1)), three.Synced)},
		{three, rename("a", "d"), of(three.Nodes, list(en("c", 0), en("d", 2), en("e", 1)), three.Synced)},
		{three, rename("a", "z"), of(three.Nodes, list(en("c", 0), en("e", 1), en("z", 2)), three.Synced)},
		{three, rename("e", "b"), of(three.Nodes, list(en("a", 2), en("b", 1), en("c", 0)), three.Synced)},
		{three, rename("c", "abcdefghijkl"), of(three.Nodes, list(en("a", 2), en("abcdefghijkl", 0), en("e", 1)), three.Synced)},
		{three, rename("c", "c"), three},
		{three, rename("a", "a"), three},
		{three, rename("e", "e"), three},
		// A node that Synced has stays, one that it has not goes.
		{three, rename("a", "c"), of(three.Nodes, list(en("c", 2), en("e", 1)), three.Synced)},
		{three, rename("a", "e"), of(nodes("0", "", "2", ""), list(en("c", 0), en("e", 1)), three.Synced)},
		{three, rename("c", "a"), of(nodes("0", "", "1", ""), list(en("a", 0), en("e", 1)), three.Synced)},
		{three, rename("e", "c"), of(three.Nodes, list(en("a", 2), en("c", 1)), three.Synced)},
		{three, rename("e", "x"), of(three.Nodes, list(en("a", 2), en("c", 0), en("x", 1)), three.Synced)},
	})
}

func TestW2Remove(t *testing.T) {
	three := of(nodes("0", "", "1", "", "2", ""), list(en("a", 2), en("c", 0), en("e", 1)), list(en("a", 1)))
	wantDone(t, []done{
		{three, remove("a"), of(nodes("0", "", "1", ""), list(en("c", 0), en("e", 1)), list(en("a", 1)))},
		{three, remove("c"), of(nodes("1", "", "2", ""), list(en("a", 1), en("e", 0)), list(en("a", 0)))},
		{three, remove("e"), of(three.Nodes, list(en("a", 2), en("c", 0)), list(en("a", 1)))},
		{of(nodes("x", "y"), list(en("a", 0)), nil), remove("a"), api.FS{}},
	})
}

func TestW2SyncDir(t *testing.T) {
	f := of(nodes("0", "a", "1", "", "2", "", "3", "d"), list(en("a", 3), en("c", 0)), list(en("a", 1), en("b", 2), en("c", 0)))
	wantDone(t, []done{
		{api.FS{}, dir, api.FS{}},
		{f, dir, of(nodes("0", "a", "3", "d"), list(en("a", 1), en("c", 0)), list(en("a", 1), en("c", 0)))},
		{of(nodes("x", "y"), nil, list(en("a", 0))), dir, api.FS{}},
		{of(nodes("x", "y"), list(en("a", 0)), nil), dir, of(nodes("x", "y"), list(en("a", 0)), list(en("a", 0)))},
		{of(nodes("x", "y"), list(en("a", 0)), list(en("b", 0))), dir, of(nodes("x", "y"), list(en("a", 0)), list(en("a", 0)))},
	})
}

func TestW2Errors(t *testing.T) {
	f := of(nodes("0", "a", "1", ""), list(en("a", 0), en("b", 1)), list(en("c", 0)))
	for _, kind := range []int{math.MinInt, -1, 0, 6, 7, 257, math.MaxInt} {
		for _, o := range ops(api.Op{}, keep("a"), rename("A", "A"), write("zz", long+"x")) {
			o.Kind = kind
			wantDo(t, f, o, api.FS{}, api.ErrKind)
		}
	}
	for _, name := range badNames() {
		for _, o := range ops(write(name, "x"), write(name, long+"x"), keep(name), rename(name, "b"), rename("a", name), rename("zz", name), remove(name)) {
			wantDo(t, f, o, api.FS{}, api.ErrForm)
		}
		if name == "" {
			continue
		}
		for _, o := range ops(write("a", "x"), write("a", long+"x"), keep("a"), keep("zz"), remove("a"), remove("zz"), dir) {
			o.To = name
			wantDo(t, f, o, api.FS{}, api.ErrForm)
		}
		for _, o := range ops(keep("a"), keep("zz"), rename("a", "b"), rename("zz", "b"), remove("a"), dir) {
			for _, text := range []string{name, long, long + "x"} {
				o.Text = text
				wantDo(t, f, o, api.FS{}, api.ErrForm)
			}
		}
		wantDo(t, f, api.Op{Kind: api.OpSyncDir, Name: name}, api.FS{}, api.ErrForm)
	}
	for _, o := range ops(api.Op{Kind: api.OpSyncDir, Name: "a"}, api.Op{Kind: api.OpSyncDir, To: "a"},
		api.Op{Kind: api.OpWrite, Name: "a", To: "a"}, api.Op{Kind: api.OpSync, Name: "a", To: "b"}, api.Op{Kind: api.OpRemove, Name: "a", To: "zz"}) {
		wantDo(t, f, o, api.FS{}, api.ErrForm)
	}
	for _, name := range []string{"c", "zz", "shadow", "aa", "abcdefghijkl"} {
		for _, o := range ops(keep(name), rename(name, "a"), rename(name, name), rename(name, "zz"), remove(name)) {
			wantDo(t, f, o, api.FS{}, api.ErrNone)
		}
	}
	wantDo(t, f, write("a", long+"x"), api.FS{}, api.ErrMany)
	wantDo(t, f, write("zz", long+"x"), api.FS{}, api.ErrMany)
}

// Of a node more, one of all nodes there are is too much, in whatever list they stand.
func TestW2ManyNodes(t *testing.T) {
	f := full()
	wantDo(t, f, write("zz", ""), api.FS{}, api.ErrMany)
	wantDo(t, f, write("aa", "x"), api.FS{}, api.ErrMany)
	wantDo(t, f, write("zz", long+"x"), api.FS{}, api.ErrMany)
	wantDo(t, f, keep("zz"), api.FS{}, api.ErrNone)
	wantDo(t, f, rename("zz", "aa"), api.FS{}, api.ErrNone)
	wantDo(t, f, rename("a", "zz"), of(f.Nodes, append(f.Dir[1:], en("zz", 0)), nil), api.OK)
	half := of(f.Nodes, f.Dir[:12], f.Dir[12:])
	wantDo(t, half, write("zz", "x"), api.FS{}, api.ErrMany)
	wantDo(t, half, write("m", "x"), api.FS{}, api.ErrMany)
	wantDo(t, half, write("a", "a"), half, api.OK)
	wantDo(t, half, dir, of(f.Nodes[:12], f.Dir[:12], f.Dir[:12]), api.OK)
	few := of(f.Nodes[:23], f.Dir[:23], nil)
	wantDo(t, few, write("x", "x"), f, api.OK)
}

// Whatever ops come one behind the other, a file system is what a model of it is.
func TestW2Drawn(t *testing.T) {
	var d draw
	told := map[api.Errno]int{}
	for files := 1; files < 26; files++ {
		m := newModel()
		f := api.FS{}
		for range 1000 {
			o := d.op(files)
			if files > 15 && d.n(4) > 0 {
				o = write(letter(d.n(files)), "x")
			}
			g, e := fs.Do(f, o)
			if is := m.do(o); e != is || e != api.OK && !same(g, api.FS{}) {
				t.Fatalf("Do(%v, %v) = %v %d, must be %d", f, o, g, e, is)
			}
			told[e]++
			if e != api.OK {
				continue
			}
			if !same(g, m.fs()) || fs.Check(g) != api.OK {
				t.Fatalf("Do(%v, %v) = %v, must be %v", f, o, g, m.fs())
			}
			f = g
		}
		for at := range 26 {
			text, e := "", api.ErrNone
			if n := m.now[letter(at)]; n != nil {
				text, e = n.live, api.OK
			}
			wantRead(t, f, letter(at), text, e)
		}
	}
	if told[api.OK] < 10000 || told[api.ErrNone] < 1000 || told[api.ErrMany] < 10 {
		t.Errorf("what is told: %v", told)
	}
}

func TestW3Play(t *testing.T) {
	for _, c := range []struct {
		f   api.FS
		l   []api.Op
		out api.FS
	}{
		{api.FS{}, nil, api.FS{}},
		{full(), nil, full()},
		{full(), ops(), full()},
		{api.FS{}, ops(write("a", "one"), keep("a"), dir, write("a", "two")), of(nodes("two", "one"), list(en("a", 0)), list(en("a", 0)))},
		{api.FS{}, ops(write("b", "1"), write("a", "2"), write("c", "3"), dir, remove("a"), write("d", "4"), rename("c", "a")),
			of(nodes("1", "", "2", "", "3", "", "4", ""), list(en("a", 2), en("b", 0), en("d", 3)), list(en("a", 1), en("b", 0), en("c", 2)))},
		{api.FS{}, ops(write("a", "1"), remove("a"), write("b", "2"), rename("b", "a")), of(nodes("2", ""), list(en("a", 0)), nil)},
		{full(), ops(remove("c"), write("zz", "new")), of(append(slices.Delete(full().Nodes, 2, 3), api.Node{Live: "new"}),
			func() []api.Entry {
				l := slices.Delete(full().Dir, 2, 3)
				for at := 2; at < len(l); at++ {
					l[at].Node--
				}
				return append(l, en("zz", 23))
			}(), nil)},
		{api.FS{}, slices.Repeat(ops(write("a", "1"), rename("a", "b")), api.MaxOps/2), of(nodes("1", ""), list(en("b", 0)), nil)},
	} {
		wantPlay(t, c.f, c.l, c.out, api.OK)
	}
}

func TestW3PlayErrors(t *testing.T) {
	bad := of(nodes("", ""), nil, nil)
	for _, c := range []struct {
		f api.FS
		l []api.Op
		e api.Errno
	}{
		{bad, make([]api.Op, 65), api.ErrState},
		{bad, ops(api.Op{}), api.ErrState},
		{api.FS{}, make([]api.Op, 65), api.ErrMany},
		{api.FS{}, slices.Repeat(ops(dir), 65), api.ErrMany},
		{api.FS{}, slices.Repeat(ops(write("A", "x")), 65), api.ErrMany},
		{api.FS{}, make([]api.Op, 64), api.ErrKind},
		// The first op of which something is wrong tells, and of that what stands first.
		{api.FS{}, ops(write("a", "x"), keep("b"), api.Op{}), api.ErrNone},
		{api.FS{}, ops(write("a", "x"), write("A", "x"), keep("b")), api.ErrForm},
		{api.FS{}, ops(write("a", "x"), write("a", long+"x"), write("A", "x")), api.ErrMany},
		{api.FS{}, ops(write("a", "x"), remove("a"), keep("a"), api.Op{}), api.ErrNone},
		{api.FS{}, ops(write("a", "x"), rename("a", "b"), remove("a")), api.ErrNone},
		{api.FS{}, ops(dir, api.Op{Kind: 6}, remove("a")), api.ErrKind},
		{full(), ops(write("a", "x"), write("zz", "x"), api.Op{}), api.ErrMany},
		{full(), ops(dir, remove("a"), write("zz", "x")), api.ErrMany},
		{full(), ops(dir, rename("a", "b"), write("zz", "x")), api.ErrMany},
		{api.FS{}, append(slices.Repeat(ops(dir), 63), keep("a")), api.ErrNone},
	} {
		wantPlay(t, c.f, c.l, api.FS{}, c.e)
	}
}

// Ops that are played do what they do one by one.
func TestW3PlayDrawn(t *testing.T) {
	var d draw
	good := 0
	for range 3000 {
		var f api.FS
		var l []api.Op
		for range d.n(30) {
			l = append(l, d.op(4))
		}
		if d.n(2) == 0 {
			l = slices.DeleteFunc(l, func(o api.Op) bool {
				g, e := fs.Do(f, o)
				if e == api.OK {
					f = g
				}
				return e != api.OK
			})
		}
		out, e := api.FS{}, api.OK
		for _, o := range l {
			if out, e = fs.Do(out, o); e != api.OK {
				break
			}
		}
		wantPlay(t, api.FS{}, l, out, e)
		if e == api.OK && len(l) > 10 {
			good++
		}
	}
	if good < 100 {
		t.Errorf("%d plays are good", good)
	}
}

func TestW3Crash(t *testing.T) {
	const now = 1 << 63
	f := of(nodes("0", "a", "1", "b", "2", "c"), list(en("a", 2), en("c", 0)), list(en("a", 1), en("b", 2)))
	was := list(en("a", 0), en("b", 1))
	is := list(en("a", 1), en("c", 0))
	for _, c := range []struct {
		f    api.FS
		mask uint64
		out  api.FS
	}{
		{api.FS{}, 0, api.FS{}},
		{api.FS{}, math.MaxUint64, api.FS{}},
		{f, 0, of(nodes("b", "b", "c", "c"), was, was)},
		{f, 1, of(nodes("b", "b", "c", "c"), was, was)},
		{f, 2, of(nodes("1", "1", "c", "c"), was, was)},
		{f, 4, of(nodes("b", "b", "2", "2"), was, was)},
		{f, 6, of(nodes("1", "1", "2", "2"), was, was)},
		{f, now - 1, of(nodes("1", "1", "2", "2"), was, was)},
		{f, now - 8, of(nodes("b", "b", "c", "c"), was, was)},
		{f, now, of(nodes("a", "a", "c", "c"), is, is)},
		{f, now | 1, of(nodes("0", "0", "c", "c"), is, is)},
		{f, now | 2, of(nodes("a", "a", "c", "c"), is, is)},
		{f, now | 4, of(nodes("a", "a", "2", "2"), is, is)},
		{f, now | 5, of(nodes("0", "0", "2", "2"), is, is)},
		{f, math.MaxUint64, of(nodes("0", "0", "2", "2"), is, is)},
		{full(), 0, api.FS{}},
	} {
		wantCrash(t, c.f, c.mask, c.out, api.OK)
	}
	// Each file of a list that is full by its own bit.
	for at := range api.MaxNodes {
		out := full()
		for i := range out.Nodes {
			out.Nodes[i] = api.Node{}
		}
		out.Nodes[at] = api.Node{Live: letter(at), Synced: letter(at)}
		out.Synced = out.Dir
		wantCrash(t, full(), now|1<<at, out, api.OK)
	}
}

func TestW3CrashDrawn(t *testing.T) {
	var d draw
	for range 3000 {
		m := newModel()
		for range d.n(40) {
			m.do(d.op(1 + d.n(8)))
		}
		f, mask := m.fs(), d.mask()
		m.crash(mask)
		wantCrash(t, f, mask, m.fs(), api.OK)
		// Behind a crash all is for good: another one changes nothing.
		wantCrash(t, m.fs(), d.mask(), m.fs(), api.OK)
	}
}

// What was synced, file and directory, is there behind a crash.
func TestW4Synced(t *testing.T) {
	var d draw
	for range 3000 {
		f := api.FS{}
		play := func(l ...api.Op) {
			for _, o := range l {
				if g, e := fs.Do(f, o); e == api.OK {
					f = g
				}
			}
		}
		drawn := func() {
			for range d.n(12) {
				play(d.op(5))
			}
		}
		drawn()
		l := [][]api.Op{ops(write("q", "text"), keep("q"), dir), ops(write("q", "text"), dir, keep("q")), ops(write("p", "text"), keep("p"), rename("p", "q"), dir)}[d.n(3)]
		play(l...)
		// None of these is of q.
		drawn()
		for range 8 {
			g, e := fs.Crash(f, d.mask())
			if e != api.OK {
				t.Fatalf("Crash(%v) is %d", f, e)
			}
			wantRead(t, g, "q", "text", api.OK)
		}
	}
}

// And what was synced but halfway may be there, or not.
func TestW4Halfway(t *testing.T) {
	for _, l := range [][]api.Op{
		ops(write("q", "text")), ops(write("q", "text"), keep("q")), ops(write("q", "text"), dir),
		ops(write("q", "old"), keep("q"), dir, write("q", "text")),
		ops(write("q", "text"), keep("q"), dir, write("p", "x"), rename("p", "q")),
		ops(write("q", "text"), keep("q"), dir, remove("q")),
	} {
		f, _ := fs.Play(api.FS{}, l)
		told := map[string]int{}
		for _, mask := range []uint64{0, 1, 2, 3, 1 << 63, 1<<63 | 1, 1<<63 | 2, 1<<63 | 3} {
			g, _ := fs.Crash(f, mask)
			text, e := fs.Read(g, "q")
			if e != api.OK {
				text = "none"
			}
			told[text]++
		}
		if told["text"] == 0 || len(told) == 1 {
			t.Errorf("behind %v there is %v", l, told)
		}
	}
}

// strange: file systems of all kinds, few of which are ones.
func strange() []api.FS {
	numbers := []int{math.MinInt, -1, 0, 1, 2, 23, 24, math.MaxInt}
	names := []string{"", "a", "b", "shadow", "A", "\x00"}
	var lists [][]api.Entry
	for _, n := range numbers {
		for _, name := range names {
			lists = append(lists, list(en(name, n)), list(en("a", 0), en(name, n)))
		}
	}
	lists = append(lists, nil, list())
	var l []api.FS
	for _, n := range [][]api.Node{nil, {}, make([]api.Node, 1), make([]api.Node, 2), make([]api.Node, 25)} {
		for i, now := range lists {
			l = append(l, of(n, now, lists[i*7%len(lists)]), of(n, now, now), of(n, lists[i*11%len(lists)], now))
		}
	}
	return l
}

// Whatever is handed in, all calls tell of it alike, and what comes out is a file system.
func TestP1Strange(t *testing.T) {
	var d draw
	kinds := []int{math.MinInt, -1, 0, 1, 2, 3, 4, 5, 6, math.MaxInt}
	texts := []string{"", "a", "b", "A", "shadow", "\x00\xff", long, long + "x"}
	for _, f := range strange() {
		e := fs.Check(f)
		for range 20 {
			o := api.Op{Kind: kinds[d.n(10)], Name: texts[d.n(8)], To: texts[d.n(8)], Text: texts[d.n(8)]}
			text, re := fs.Read(f, o.Name)
			done, de := fs.Do(f, o)
			left, ce := fs.Crash(f, d.mask())
			_, pe := fs.Play(f, nil)
			if ce != e || pe != e || e != api.OK && (re != e || de != e) {
				t.Fatalf("of %v, %s: Check %d, Read %d, Do %d, Crash %d, Play %d", f, shown(o), e, re, de, ce, pe)
			}
			if re != api.OK && text != "" || de != api.OK && !same(done, api.FS{}) || ce != api.OK && !same(left, api.FS{}) {
				t.Fatalf("of %v, %s there is something with an error", f, shown(o))
			}
			if fs.Check(done) != api.OK || fs.Check(left) != api.OK {
				t.Fatalf("of %v, %s there is no file system: %v, %v", f, shown(o), done, left)
			}
		}
	}
}

// roomy: a file system with spare room behind its lists, and that room.
func roomy() (api.FS, api.FS) {
	all := of(nodes("0", "a", "1", "b", "2", "c", "spare", "spare"),
		list(en("a", 2), en("c", 0), en("spare", 9)), list(en("a", 1), en("b", 2), en("spare", 9)))
	return of(all.Nodes[:3], all.Dir[:2], all.Synced[:2]), all
}

func TestP2OnlyRead(t *testing.T) {
	f, all := roomy()
	room := ops(write("d", "4"), keep("d"), remove("c"), rename("a", "b"), dir, remove("spare"))
	for _, l := range [][]api.Op{nil, room[:1], room[:2], room[:3], room[:5]} {
		out, _ := fs.Play(f, l)
		want, _ := fs.Play(f, l)
		for _, o := range room {
			fs.Do(f, o)
		}
		for _, mask := range []uint64{0, 5, math.MaxUint64} {
			fs.Crash(f, mask)
		}
		fs.Read(f, "a")
		if _, is := roomy(); !same(all, is) || room[5] != remove("spare") || room[0].Text != "4" {
			t.Fatal("what was handed in, or the room behind it, was changed")
		}
		clear(all.Nodes)
		clear(all.Dir)
		clear(all.Synced)
		if !same(out, want) {
			t.Error("Play kept what it was handed")
		}
		f, all = roomy()
	}
}

// spoil a list, and the room behind it.
func spoil[T any](l []T, with T) {
	l = l[:cap(l)]
	for at := range l {
		l[at] = with
	}
}

func TestP2NewMemory(t *testing.T) {
	for _, call := range []func(f api.FS) (api.FS, api.Errno){
		func(f api.FS) (api.FS, api.Errno) { return fs.Play(f, nil) },
		func(f api.FS) (api.FS, api.Errno) { return fs.Do(f, dir) },
		func(f api.FS) (api.FS, api.Errno) { return fs.Do(f, keep("a")) },
		func(f api.FS) (api.FS, api.Errno) { return fs.Do(f, write("a", "x")) },
		func(f api.FS) (api.FS, api.Errno) { return fs.Do(f, write("z", "x")) },
		func(f api.FS) (api.FS, api.Errno) { return fs.Do(f, rename("a", "c")) },
		func(f api.FS) (api.FS, api.Errno) { return fs.Do(f, remove("a")) },
		func(f api.FS) (api.FS, api.Errno) { return fs.Crash(f, 0) },
		func(f api.FS) (api.FS, api.Errno) { return fs.Crash(f, math.MaxUint64) },
	} {
		f, all := roomy()
		want, e := call(f)
		if e != api.OK {
			t.Fatalf("there is %d", e)
		}
		for which := range 3 {
			g, _ := call(f)
			if which != 0 {
				spoil(g.Nodes, api.Node{Live: "spoilt"})
				g.Nodes = want.Nodes
			}
			if which != 1 {
				spoil(g.Dir, en("spoilt", 7))
				g.Dir = want.Dir
			}
			if which != 2 {
				spoil(g.Synced, en("spoilt", 8))
				g.Synced = want.Synced
			}
			if !same(g, want) {
				t.Error("two lists share memory")
			}
			if _, is := roomy(); !same(all, is) {
				t.Error("an answer shares memory with what was handed in")
			}
		}
	}
}

func TestP3SameAgain(t *testing.T) {
	f, _ := roomy()
	l := ops(write("d", "4"), remove("c"), rename("a", "b"), dir)
	played, _ := fs.Play(f, l)
	left, _ := fs.Crash(f, 5)
	others := some()
	var all sync.WaitGroup
	for range 8 {
		all.Go(func() {
			for i := range 200 {
				other := others[i%len(others)]
				fs.Check(other)
				fs.Play(other, l)
				fs.Crash(other, uint64(i)<<60|uint64(i))
				fs.Do(f, api.Op{Kind: i % 8, Name: "a"})
				wantCheck(t, f, api.OK)
				wantRead(t, f, "a", "2", api.OK)
				wantPlay(t, f, l, played, api.OK)
				wantCrash(t, f, 5, left, api.OK)
			}
		})
	}
	all.Wait()
}

func TestP4LongOnes(t *testing.T) {
	rest := strings.Repeat("a", 1<<24)
	many := make([]api.Entry, 1<<20)
	rising := make([]api.Entry, 1<<20)
	for at := range rising {
		name := []byte("aaaaa")
		for i, n := 4, at; n > 0; i, n = i-1, n/26 {
			name[i] += byte(n % 26)
		}
		rising[at] = en(string(name), at)
	}
	same := slices.Clone(rising)
	for at := range same {
		same[at].Node = at % api.MaxNodes
	}
	wantWrong(t, of(make([]api.Node, 1<<20), rising, rising), api.ErrMany)
	wantWrong(t, of(make([]api.Node, 24), rising, nil), api.ErrRange)
	wantWrong(t, of(make([]api.Node, 24), nil, same), api.ErrTwice)
	wantWrong(t, of(make([]api.Node, 24), many, many), api.ErrForm)
	wantWrong(t, of(nodes(rest, rest), list(en("a", 0)), nil), api.ErrMany)
	wantWrong(t, of(nodes("", ""), list(en(rest, 0)), nil), api.ErrForm)
	wantRead(t, full(), rest, "", api.ErrNone)
	wantDo(t, full(), write("a", rest), api.FS{}, api.ErrMany)
	wantDo(t, full(), write(rest, rest), api.FS{}, api.ErrForm)
	wantDo(t, full(), rename("a", rest), api.FS{}, api.ErrForm)
	wantDo(t, full(), api.Op{Kind: api.OpSync, Name: "a", Text: rest}, api.FS{}, api.ErrForm)
	wantPlay(t, full(), make([]api.Op, 1<<20), api.FS{}, api.ErrMany)
}
