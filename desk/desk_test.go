package desk_test

import (
	"encoding/hex"
	"fmt"
	"maps"
	"math"
	"slices"
	"strconv"
	"strings"
	"sync"
	"testing"

	"hypostyle/api"
	"hypostyle/desk"
	"hypostyle/file"
	"hypostyle/fs"
	"hypostyle/nulls"
	"hypostyle/plan"
	"hypostyle/rewrite"
	"hypostyle/table"
)

func in(n uint64) api.Cell { return api.Cell{Kind: api.Number, N: n} }
func tx(s string) api.Cell { return api.Cell{Kind: api.Text, S: s} }

// gone: a Null.
var gone api.Cell

// long: a text that is as long as may be.
var long = strings.Repeat("x", api.MaxFile)

// shown: anything, the beginning of it.
func shown(x any) string {
	s := fmt.Sprint(x)
	return s[:min(len(s), 300)]
}

// same: are they? Lists without elements are the same, nil or not.
func same(a, b api.FS) bool {
	return slices.Equal(a.Nodes, b.Nodes) && slices.Equal(a.Dir, b.Dir) && slices.Equal(a.Synced, b.Synced)
}

// wantRun: of a text, what is answered, and what becomes of the files.
func wantRun(t *testing.T, f api.FS, text, answer string, out api.FS, e api.Errno) {
	t.Helper()
	if g, ga, ge := desk.Run(f, text); ga != answer || !same(g, out) || ge != e {
		t.Errorf("Run(%s, %.300q) = %s %.300q %d, must be %s %.300q %d", shown(f), text, shown(g), ga, ge, shown(out), answer, e)
	}
}

// wantAnswer: of a text, whatever becomes of the files.
func wantAnswer(t *testing.T, f api.FS, text, answer string) {
	t.Helper()
	if _, g, e := desk.Run(f, text); g != answer || e != api.OK {
		t.Errorf("Run(%s, %.300q) answers %.300q %d, must answer %.300q", shown(f), text, g, e, answer)
	}
}

// wantWrong: a line of which an error is told, and nothing becomes of the files.
func wantWrong(t *testing.T, f api.FS, line string, e api.Errno) {
	t.Helper()
	wantRun(t, f, line, "error "+strconv.Itoa(int(e))+"\n", f, api.OK)
}

// ran: the files that a text makes of none, each line of which must be fine.
func ran(text string) api.FS {
	f, answer, e := desk.Run(api.FS{}, text)
	if e != api.OK || strings.Contains(answer, "error") {
		panic(answer)
	}
	return f
}

// played: the file system that ops make.
func played(f api.FS, l ...api.Op) api.FS {
	f, e := fs.Play(f, l)
	if e != api.OK {
		panic(e)
	}
	return f
}

// placed: a file that has a text for good.
func placed(f api.FS, name, text string) api.FS {
	return played(f, api.Op{Kind: api.OpWrite, Name: name, Text: text}, api.Op{Kind: api.OpSync, Name: name}, api.Op{Kind: api.OpSyncDir})
}

func letter(i int) string { return string(rune('a' + i)) }

// text of a table, as the desk writes it.
func text(t api.Table) string {
	s, e := file.Write(t, 4, 16)
	if e != api.OK {
		panic(e)
	}
	return s
}

// birds: a table of three rows, and the lines by which the desk has it.
func birds() api.Table {
	return api.Table{
		Cols: []api.Column{{Name: "id", Kind: api.Number}, {Name: "name", Kind: api.Text}},
		Data: [][]api.Cell{{in(1), in(2), in(9)}, {tx("rook"), gone, tx("wren")}},
	}
}

const birdLines = "create birds id number name text\ninsert birds 1 x726f6f6b\ninsert birds 2 -\ninsert birds 9 x7772656e"

const birdRows = "1 x726f6f6b\n2 -\n9 x7772656e\n"

// full: a table of one column, of so many rows.
func full(rows int) api.Table {
	return api.Table{Cols: birds().Cols[:1], Data: [][]api.Cell{make([]api.Cell, rows)}}
}

func TestZ1Lines(t *testing.T) {
	made := placed(api.FS{}, "birds", text(birds()))
	wantRun(t, api.FS{}, birdLines, "ok\nok\nok\nok\n", made, api.OK)
	wantRun(t, api.FS{}, "\n\n"+strings.ReplaceAll(birdLines, "\n", "\n\n")+"\n", "ok\nok\nok\nok\n", made, api.OK)
	wantRun(t, made, "select birds\nnonsense\nselect birds where id more 1\n", birdRows+"ok\nerror 1\n2 -\n9 x7772656e\nok\n", made, api.OK)
	for _, empty := range []string{"", "\n", "\n\n\n", strings.Repeat("\n", 23)} {
		wantRun(t, api.FS{}, empty, "", api.FS{}, api.OK)
		wantRun(t, made, empty, "", made, api.OK)
	}
}

// Lines that are none, and words that are more or fewer than they must be.
func TestZ1NoLines(t *testing.T) {
	f := ran(birdLines)
	for _, line := range []string{
		" ", "  ", "x", "ok", "Create a b number", "creates a b number", "CREATE a b number", "\tcreate a b number", " create a b number", "create  a b number",
		"create", "create ", "create a", "create a ", "create a b", "create a b ", "create a b number ", "create a b number c", "create a  b number", "create a b number\r", "create a b number\t",
		"insert", "insert ", "insert birds", "insert birds ", "insert birds 1 - ", "insert birds  1 -", " insert birds 1 -", "insert\tbirds 1 -",
		"apply", "apply ", "apply birds", "apply birds ", "apply birds  drop id", "apply birds drop id ", "apply drop id", "apply birds drop", " apply birds drop id",
		"select", "select birds ", " select birds", "select birds id gone", "select birds where", "select birds where ", "select birds  where id gone", "select birds where id gone ", "select birds birds", "selectbirds",
		"crash", "crash ", "crash 0 ", "crash  0", " crash 0", "crash 0 0", "crash0", "recover", "drop birds", "keep where id gone",
	} {
		wantWrong(t, f, line, api.ErrForm)
		wantRun(t, f, line+"\n"+line+"\nselect birds", "error 1\nerror 1\n"+birdRows+"ok\n", f, api.OK)
	}
}

func TestZ1Check(t *testing.T) {
	one := make([]api.Node, 1)
	for _, c := range []struct {
		f api.FS
		e api.Errno
	}{
		{api.FS{Nodes: make([]api.Node, 25)}, api.ErrMany},
		{api.FS{Nodes: []api.Node{{Live: long + "x"}}}, api.ErrMany},
		{api.FS{Nodes: one, Dir: []api.Entry{{Name: "A"}}}, api.ErrForm},
		{api.FS{Nodes: one, Dir: []api.Entry{{Name: "b"}, {Name: "a"}}}, api.ErrState},
		{api.FS{Nodes: one, Dir: []api.Entry{{Name: "a", Node: 1}}}, api.ErrRange},
		{api.FS{Nodes: one, Synced: []api.Entry{{Name: "a"}, {Name: "b"}}}, api.ErrTwice},
		{api.FS{Nodes: one}, api.ErrState},
	} {
		for _, s := range []string{"", "x", "create a b number", "crash 0", strings.Repeat("\n", 24), strings.Repeat("select a\n", 30)} {
			wantRun(t, c.f, s, "", api.FS{}, c.e)
		}
	}
}

func TestZ1Many(t *testing.T) {
	f := ran(birdLines)
	for many := range 40 {
		for _, line := range []string{"", "x", "crash 0"} {
			s := strings.TrimSuffix(strings.Repeat(line+"\n", many+1), "\n")
			answer := strings.Repeat(map[string]string{"x": "error 1\n", "crash 0": "ok\n"}[line], many+1)
			if many < 24 {
				wantRun(t, f, s, answer, f, api.OK)
			} else {
				wantRun(t, f, s, "", api.FS{}, api.ErrMany)
			}
		}
	}
	// A byte 10 at the end begins one line more.
	wantRun(t, f, strings.Repeat("crash 0\n", 23), strings.Repeat("ok\n", 23), f, api.OK)
	wantRun(t, f, strings.Repeat("crash 0\n", 24), "", api.FS{}, api.ErrMany)
}

func TestZ2Create(t *testing.T) {
	for line, c := range map[string][]api.Column{
		"create x a number":                     {{Name: "a", Kind: api.Number}},
		"create x a text":                       {{Name: "a", Kind: api.Text}},
		"create abcdefghijkl abcdefghijkl text": {{Name: "abcdefghijkl", Kind: api.Text}},
		"create create number number text text": {{Name: "number", Kind: api.Number}, {Name: "text", Kind: api.Text}},
		"create where is text gone number":      {{Name: "is", Kind: api.Text}, {Name: "gone", Kind: api.Number}},
		"create x a text b text c text d text e number f number": {
			{Name: "a", Kind: api.Text}, {Name: "b", Kind: api.Text}, {Name: "c", Kind: api.Text}, {Name: "d", Kind: api.Text}, {Name: "e", Kind: api.Number}, {Name: "f", Kind: api.Number}},
	} {
		s := text(api.Table{Cols: c, Data: make([][]api.Cell, len(c))})
		wantRun(t, api.FS{}, line, "ok\n", placed(api.FS{}, strings.Fields(line)[1], s), api.OK)
		f := placed(placed(api.FS{}, "zz", "z"), "aa", "a")
		wantRun(t, f, line, "ok\n", placed(f, strings.Fields(line)[1], s), api.OK)
	}
}

func TestZ2Errors(t *testing.T) {
	f := placed(ran(birdLines), "shadow", "s")
	seven := " a text b text c text d text e text f text g text"
	for line, e := range map[string]api.Errno{
		"create Birds id number":                  api.ErrForm,
		"create abcdefghijklm id number":          api.ErrForm,
		"create a1 id number":                     api.ErrForm,
		"create  id number":                       api.ErrForm,
		"create birds":                            api.ErrForm,
		"create birds id numbers":                 api.ErrForm,
		"create birds id Number":                  api.ErrForm,
		"create birds id 1":                       api.ErrForm,
		"create birds id number id null":          api.ErrForm,
		"create new id number name":               api.ErrForm,
		"create new id other":                     api.ErrForm,
		"create new" + seven + " h other":         api.ErrForm,
		"create birds id number":                  api.ErrTwice,
		"create birds Id number":                  api.ErrTwice,
		"create birds" + seven:                    api.ErrTwice,
		"create shadow id number":                 api.ErrTwice,
		"create new" + seven:                      api.ErrMany,
		"create new" + seven + " g text":          api.ErrMany,
		"create new A text" + seven:               api.ErrMany,
		"create new Id number":                    api.ErrForm,
		"create new id number abcdefghijklm text": api.ErrForm,
		"create new id number id text":            api.ErrTwice,
		"create new id number id text A text":     api.ErrTwice,
		"create new id number A text id text":     api.ErrForm,
	} {
		wantWrong(t, f, line, e)
	}
	// Of Shadow, which no file may be called, Steps tells.
	wantWrong(t, ran(birdLines), "create shadow id number", api.ErrForm)
	wantWrong(t, ran(birdLines), "create shadow id number id number", api.ErrTwice)
	// A file that is there for good alone is no such file.
	gone := played(ran(birdLines), api.Op{Kind: api.OpRemove, Name: "birds"})
	wantAnswer(t, gone, "create birds a text\nselect birds\ninsert birds x", "ok\nok\nok\n")
}

func TestZ3Insert(t *testing.T) {
	is := birds()
	f := ran(birdLines)
	for _, c := range []struct {
		words string
		row   []api.Cell
	}{
		{"0 x", []api.Cell{in(0), tx("")}},
		{"- -", []api.Cell{gone, gone}},
		{"18446744073709551615 x00ff0a207f", []api.Cell{in(math.MaxUint64), tx("\x00\xff\n \x7f")}},
		{"10 x" + strings.Repeat("61", 16), []api.Cell{in(10), tx(strings.Repeat("a", 16))}},
	} {
		is, _ = table.Append(is, api.Table{Cols: is.Cols, Data: [][]api.Cell{c.row[:1], c.row[1:]}})
		out := placed(api.FS{}, "birds", text(is))
		wantRun(t, f, "insert birds "+c.words, "ok\n", out, api.OK)
		f = out
	}
}

func TestZ3InsertErrors(t *testing.T) {
	f := placed(ran(birdLines), "bad", "x")
	f = placed(f, "sum", strings.Replace(text(birds()), "rook", "roof", 1))
	f = placed(placed(f, "none", text(api.Table{})), "many", text(full(128)))
	f = placed(f, "shadow", text(birds()))
	sixteen := "x" + strings.Repeat("61", 16)
	for line, e := range map[string]api.Errno{
		"insert birds 01 -":                   api.ErrForm,
		"insert birds 1 x6":                   api.ErrForm,
		"insert birds 1 X61":                  api.ErrForm,
		"insert birds 1 x6A":                  api.ErrForm,
		"insert birds 1 rook":                 api.ErrForm,
		"insert birds 18446744073709551616 -": api.ErrForm,
		"insert birds +1 -":                   api.ErrForm,
		"insert birds -1 -":                   api.ErrForm,
		"insert birds 1 - - - - - - - - - 00": api.ErrForm,
		"insert zz 1 x6":                      api.ErrForm,
		"insert bad 1 x6":                     api.ErrForm,
		"insert zz 1 -":                       api.ErrNone,
		"insert Birds 1 -":                    api.ErrNone,
		"insert zz " + sixteen + "61":         api.ErrNone,
		"insert bad " + sixteen + "61":        api.ErrForm,
		"insert sum 1":                        api.ErrSum,
		"insert birds 1":                      api.ErrKind,
		"insert birds 1 - -":                  api.ErrKind,
		"insert birds 1 - - - - - -":          api.ErrKind,
		"insert birds " + sixteen + "61":      api.ErrKind,
		"insert none 1":                       api.ErrKind,
		"insert many 1 1":                     api.ErrKind,
		"insert birds x31 -":                  api.ErrKind,
		"insert birds 1 1":                    api.ErrKind,
		"insert birds x31 " + sixteen + "61":  api.ErrKind,
		"insert birds 1 " + sixteen + "61":    api.ErrMany,
		"insert many x31":                     api.ErrKind,
		"insert many 1":                       api.ErrMany,
		"insert many -":                       api.ErrMany,
		"insert shadow 1 -":                   api.ErrForm,
		"insert shadow 1":                     api.ErrKind,
	} {
		wantWrong(t, f, line, e)
	}
	// What a file has now is read, not what it has for good.
	now := played(f, api.Op{Kind: api.OpWrite, Name: "birds", Text: "now"})
	wantWrong(t, now, "insert birds 1 -", api.ErrForm)
}

// As many rows as there may be, and not one more.
func TestZ3Rows(t *testing.T) {
	f := ran("create a id number")
	for rows := range 130 {
		if rows < 128 {
			out := placed(api.FS{}, "a", text(full(rows+1)))
			wantRun(t, f, "insert a -", "ok\n", out, api.OK)
			f = out
			continue
		}
		wantWrong(t, f, "insert a -", api.ErrMany)
		wantAnswer(t, f, "select a", strings.Repeat("-\n", 128)+"ok\n")
	}
}

func TestZ3Apply(t *testing.T) {
	f := placed(ran(birdLines), "other", "x")
	for _, step := range []string{
		"drop name", "drop id", "rename id key", "rename id id", "add note number -", "add note text x61", "keep where id more 1", "keep where name gone not id less 9 and",
		"redact name where id is 1", "redact id where name gone", "keep where id is 7",
	} {
		l, e := plan.Parse(step + "\n")
		is, ae := plan.Apply(birds(), l)
		if e != api.OK || ae != api.OK {
			t.Fatalf("%q is no step: %d, %d", step, e, ae)
		}
		out, _ := rewrite.Rewrite(f, "birds", l, 4, 16)
		if s, _ := fs.Read(out, "birds"); s != text(is) {
			t.Fatalf("of %q the file has %q", step, s)
		}
		wantRun(t, f, "apply birds "+step, "ok\n", out, api.OK)
	}
	wantRun(t, ran(birdLines), "apply birds drop id\napply birds drop name\nselect birds\ninsert birds 1", "ok\nok\nok\nerror 7\n", placed(api.FS{}, "birds", text(api.Table{})), api.OK)
}

func TestZ3ApplyErrors(t *testing.T) {
	f := placed(placed(ran(birdLines), "bad", "x"), "shadow", text(birds()))
	f = placed(f, "sum", strings.Replace(text(birds()), "rook", "roof", 1))
	wide := " text x" + strings.Repeat("61", 17)
	for line, e := range map[string]api.Errno{
		"apply zz nonsense":                                            api.ErrForm,
		"apply zz drop":                                                api.ErrForm,
		"apply zz drop A":                                              api.ErrForm,
		"apply zz add a number x61":                                    api.ErrKind,
		"apply zz add a" + wide:                                        api.ErrMany,
		"apply zz keep where id is -":                                  api.ErrKind,
		"apply zz keep where and":                                      api.ErrForm,
		"apply zz keep where":                                          api.ErrForm,
		"apply zz drop id":                                             api.ErrNone,
		"apply Zz drop id":                                             api.ErrNone,
		"apply bad drop zz":                                            api.ErrForm,
		"apply sum drop zz":                                            api.ErrSum,
		"apply birds drop zz":                                          api.ErrNone,
		"apply birds rename zz a":                                      api.ErrNone,
		"apply birds rename id name":                                   api.ErrTwice,
		"apply birds add id number -":                                  api.ErrTwice,
		"apply birds keep where id is x61":                             api.ErrKind,
		"apply birds keep where zz gone":                               api.ErrNone,
		"apply shadow drop zz":                                         api.ErrNone,
		"apply shadow drop id":                                         api.ErrForm,
		"apply birds keep where" + strings.Repeat(" id gone", 17):      api.ErrMany,
		"apply zz keep where" + strings.Repeat(" id gone", 17):         api.ErrMany,
		"apply birds keep where id gone" + strings.Repeat(" not", 400): api.ErrMany,
		"apply birds drop " + strings.Repeat("a", 1994):                api.ErrForm,
		"apply birds drop " + strings.Repeat("a", 1995):                api.ErrMany,
		"apply zz " + strings.Repeat("a", 2000):                        api.ErrMany,
		"apply zz " + strings.Repeat("a", 1999):                        api.ErrForm,
	} {
		wantWrong(t, f, line, e)
	}
}

func TestZ4Select(t *testing.T) {
	f := ran(birdLines)
	for where, rows := range map[string]string{
		"":                                     birdRows,
		" where id more 1":                     "2 -\n9 x7772656e\n",
		" where name gone":                     "2 -\n",
		" where name gone not id gone not and": "1 x726f6f6b\n9 x7772656e\n",
		" where id is 7":                       "",
		" where name is x726f6f6b id is 9 or":  "1 x726f6f6b\n9 x7772656e\n",
		" where id gone" + strings.Repeat(" not", 15): birdRows,
	} {
		wantRun(t, f, "select birds"+where, rows+"ok\n", f, api.OK)
	}
	wantAnswer(t, api.FS{}, "create a b text\nselect a\ninsert a x000aff\nselect a\nselect a where b gone", "ok\nok\nok\nx000aff\nok\nok\n")
	wantAnswer(t, placed(api.FS{}, "none", text(api.Table{})), "select none", "ok\n")
	wantAnswer(t, placed(api.FS{}, "shadow", text(birds())), "select shadow where id is 2", "2 -\nok\n")
}

func TestZ4SelectErrors(t *testing.T) {
	f := placed(ran(birdLines), "bad", "x")
	f = placed(f, "sum", strings.Replace(text(birds()), "rook", "roof", 1))
	wide := "x" + strings.Repeat("61", 17)
	for line, e := range map[string]api.Errno{
		"select zz where":                                     api.ErrForm,
		"select zz where id":                                  api.ErrForm,
		"select zz where id is":                               api.ErrForm,
		"select zz where id is 01":                            api.ErrForm,
		"select zz where id most 1":                           api.ErrForm,
		"select zz id gone":                                   api.ErrForm,
		"select zz":                                           api.ErrNone,
		"select Zz":                                           api.ErrNone,
		"select zz where id gone":                             api.ErrNone,
		"select bad":                                          api.ErrForm,
		"select sum":                                          api.ErrSum,
		"select sum where zz gone":                            api.ErrSum,
		"select birds where zz gone":                          api.ErrNone,
		"select birds where id is x61":                        api.ErrKind,
		"select birds where id is -":                          api.ErrKind,
		"select birds where and":                              api.ErrForm,
		"select birds where id gone id gone":                  api.ErrForm,
		"select birds where is gone":                          api.ErrForm,
		"select birds where Id gone":                          api.ErrForm,
		"select birds where name is " + wide:                  api.ErrMany,
		"select birds where zz gone and":                      api.ErrForm,
		"select birds where" + strings.Repeat(" zz gone", 17): api.ErrMany,
		// These are a WHERE, and what is wrong with it Apply tells, of a table that was read.
		"select zz where and":                                  api.ErrNone,
		"select zz where id is -":                              api.ErrNone,
		"select zz where id is " + wide:                        api.ErrNone,
		"select zz where" + strings.Repeat(" id gone", 17):     api.ErrNone,
		"select sum where and":                                 api.ErrSum,
		"select zz where" + strings.Repeat(" id gone", 300):    api.ErrNone,
		"select birds where" + strings.Repeat(" id gone", 300): api.ErrMany,
	} {
		wantWrong(t, f, line, e)
	}
}

func TestZ4Crash(t *testing.T) {
	f := ran(birdLines)
	// A file that was not synced, one that was removed, and a Shadow.
	f = placed(placed(f, "old", "for good"), "shadow", "s")
	f = played(f, api.Op{Kind: api.OpWrite, Name: "birds", Text: "now"}, api.Op{Kind: api.OpRemove, Name: "old"}, api.Op{Kind: api.OpWrite, Name: "fresh", Text: "fresh"})
	for _, n := range []uint64{0, 1, 2, 3, 4, 8, 15, 1 << 62, 1 << 63, 1<<63 + 1, 1<<63 + 8, 1<<63 + 15, math.MaxUint64} {
		left, _ := fs.Crash(f, n)
		mended, _ := rewrite.Recover(left)
		if _, e := fs.Read(mended, "shadow"); e != api.ErrNone {
			t.Fatalf("behind Recover there is a Shadow: %v", mended)
		}
		wantRun(t, f, "crash "+strconv.FormatUint(n, 10), "ok\n", mended, api.OK)
	}
	for _, n := range []string{"", "00", "01", "+1", "-1", "1.0", "0x1", "1e3", "x", "x61", "-", "18446744073709551616", "99999999999999999999999", "1 1", "1 ", " 1"} {
		wantWrong(t, f, "crash "+n, api.ErrForm)
	}
}

func TestZ5Written(t *testing.T) {
	// What was there in other pages and groups is written in those of the desk.
	other, _ := file.Write(birds(), 1, 1)
	f := placed(api.FS{}, "birds", other)
	wantRun(t, f, "select birds", birdRows+"ok\n", f, api.OK)
	wantRun(t, f, "apply birds rename id id", "ok\n", placed(api.FS{}, "birds", text(birds())), api.OK)
	is, _ := table.Append(birds(), api.Table{Cols: birds().Cols, Data: [][]api.Cell{{gone}, {gone}}})
	wantRun(t, f, "insert birds - -", "ok\n", placed(api.FS{}, "birds", text(is)), api.OK)
	// More rows than a group has.
	many, _ := file.Write(full(100), 64, 128)
	wantRun(t, placed(api.FS{}, "a", many), "apply a rename id id", "ok\n", placed(api.FS{}, "a", text(full(100))), api.OK)
	wantRun(t, placed(api.FS{}, "a", many), "insert a -", "ok\n", placed(api.FS{}, "a", text(full(101))), api.OK)
	// A Shadow that is there goes its way.
	f = placed(f, "shadow", "s")
	wantRun(t, f, "insert birds - -", "ok\n", placed(api.FS{}, "birds", text(is)), api.OK)
}

// Where no node is left nothing can be written; but it can, if there is a Shadow.
func TestZ5Many(t *testing.T) {
	f := ran("create a id number")
	for i := range 23 {
		f = placed(f, letter(i+1), "x")
	}
	for _, line := range []string{"create z id number", "insert a 1", "apply a drop id"} {
		wantWrong(t, f, line, api.ErrMany)
	}
	wantWrong(t, f, "create shadow id number", api.ErrForm)
	wantWrong(t, f, "create b id number", api.ErrTwice)
	wantRun(t, f, "select a\ncrash 0", "ok\nok\n", f, api.OK)
	shadow := played(f, api.Op{Kind: api.OpRename, Name: "x", To: "shadow"}, api.Op{Kind: api.OpSyncDir})
	for _, line := range []string{"create z id number", "insert a 1", "apply a drop id"} {
		wantAnswer(t, shadow, line, "ok\n")
	}
	wantAnswer(t, shadow, "create z id number\ncreate y id number", "ok\nerror 2\n")
}

// draw: numbers that look as if they were drawn; the same each time.
type draw uint64

func (d *draw) n(n int) int {
	*d = *d*6364136223846793005 + 1442695040888963407
	return int(uint64(*d) >> 33 % uint64(n))
}

// mask of any bits.
func (d *draw) mask() uint64 { return uint64(d.n(1<<31))<<33 ^ uint64(d.n(1<<31)) }

// model: what tables alone would answer: the table of each file, and the files in the
// order in which they were written.
type model struct {
	tables map[string]api.Table
	order  []string
}

// save a table as a file.
func (m *model) save(name string, is api.Table) api.Errno {
	if name == api.Shadow {
		return api.ErrForm
	}
	if len(m.order) == api.MaxNodes {
		return api.ErrMany
	}
	m.tables[name] = is
	m.order = append(slices.DeleteFunc(m.order, func(n string) bool { return n == name }), name)
	return api.OK
}

// fs: the file system of a model.
func (m *model) fs() api.FS {
	var f api.FS
	for _, name := range m.order {
		s := text(m.tables[name])
		f.Nodes = append(f.Nodes, api.Node{Live: s, Synced: s})
	}
	for _, name := range slices.Sorted(maps.Keys(m.tables)) {
		f.Dir = append(f.Dir, api.Entry{Name: name, Node: slices.Index(m.order, name)})
	}
	f.Synced = f.Dir
	return f
}

// line of the desk, and what tables alone would answer.
type line struct {
	text string
	do   func(m *model) (string, api.Errno)
}

// answer of a line.
func (l line) answer(m *model) string {
	rows, e := l.do(m)
	if e != api.OK {
		return "error " + strconv.Itoa(int(e)) + "\n"
	}
	return rows + "ok\n"
}

// name of a file.
func (d *draw) name() string {
	return []string{"a", "b", "birds", "birds", "zz", "shadow", "abcdefghijkl", "A"}[d.n(8)]
}

// column's name.
func (d *draw) column() string { return []string{"id", "id", "name", "b", "c", "A"}[d.n(6)] }

// word of a cell.
func word(c api.Cell) string {
	return map[int]string{api.Null: "-", api.Number: strconv.FormatUint(c.N, 10), api.Text: "x" + hex.EncodeToString([]byte(c.S))}[c.Kind]
}

// cell of any kind.
func (d *draw) cell() api.Cell {
	return []api.Cell{gone, in(uint64(d.n(5))), in(uint64(d.n(9)) << d.n(60)), tx(strings.Repeat(letter(d.n(3)), d.n(18)))}[d.n(4)]
}

// create: any file.
func (d *draw) create() line {
	name := d.name()
	words := []string{"create", name}
	var is api.Table
	good := name != "A"
	for range 1 + d.n(3)*d.n(4) {
		c := api.Column{Name: d.column(), Kind: d.n(20) % 3}
		is.Cols, is.Data = append(is.Cols, c), append(is.Data, nil)
		words = append(words, c.Name, []string{"null", "number", "text"}[c.Kind])
		good = good && c.Kind != api.Null
	}
	return line{strings.Join(words, " "), func(m *model) (string, api.Errno) {
		if !good {
			return "", api.ErrForm
		}
		if _, there := m.tables[name]; there {
			return "", api.ErrTwice
		}
		if e := table.Check(is); e != api.OK {
			return "", e
		}
		return "", m.save(name, is)
	}}
}

// load the table of a file.
func (m *model) load(name string) (api.Table, api.Errno) {
	is, there := m.tables[name]
	if !there {
		return api.Table{}, api.ErrNone
	}
	return is, api.OK
}

// insert: any row.
func (d *draw) insert() line {
	name := d.name()
	words := []string{"insert", name}
	var row []api.Cell
	for range 1 + d.n(3) {
		row = append(row, d.cell())
		words = append(words, word(row[len(row)-1]))
	}
	return line{strings.Join(words, " "), func(m *model) (string, api.Errno) {
		is, e := m.load(name)
		if e != api.OK {
			return "", e
		}
		if len(row) != len(is.Cols) {
			return "", api.ErrKind
		}
		one := api.Table{Cols: is.Cols}
		for at, c := range row {
			if e := nulls.Check(is.Cols[at].Kind, []api.Cell{c}); e != api.OK {
				return "", e
			}
			one.Data = append(one.Data, []api.Cell{c})
		}
		if is, e = table.Append(is, one); e != api.OK {
			return "", e
		}
		return "", m.save(name, is)
	}}
}

// where: any condition, and its words.
func (d *draw) where() ([]api.Named, string) {
	var l []api.Named
	var words []string
	for i := range 1 + d.n(3) {
		n := api.Named{Op: 1 + d.n(4), Name: d.column()}
		words = append(words, n.Name, []string{"is", "less", "more", "gone"}[n.Op-1])
		if n.Op != api.Gone {
			n.C = d.cell()
			words = append(words, word(n.C))
		}
		l = append(l, n)
		if d.n(3) == 0 {
			l, words = append(l, api.Named{Op: api.Not}), append(words, "not")
		}
		if i > 0 && d.n(9) > 0 {
			l, words = append(l, api.Named{Op: api.Or}), append(words, "or")
		}
	}
	return l, strings.Join(words, " ")
}

// step: any one, and its words.
func (d *draw) step() (api.Step, string) {
	name, to := d.column(), d.column()
	where, words := d.where()
	switch d.n(5) {
	case 0:
		kind, c := []string{"number", "text"}[d.n(2)], d.cell()
		return api.Step{Kind: api.StepAdd, Name: name, To: kind, C: c}, "add " + name + " " + kind + " " + word(c)
	case 1:
		return api.Step{Kind: api.StepDrop, Name: name}, "drop " + name
	case 2:
		return api.Step{Kind: api.StepRename, Name: name, To: to}, "rename " + name + " " + to
	case 3:
		return api.Step{Kind: api.StepRedact, Name: name, Where: where}, "redact " + name + " where " + words
	}
	return api.Step{Kind: api.StepKeep, Where: where}, "keep where " + words
}

// apply: any step.
func (d *draw) apply() line {
	name := d.name()
	s, words := d.step()
	return line{"apply " + name + " " + words, func(m *model) (string, api.Errno) {
		if e := plan.Check([]api.Step{s}); e != api.OK {
			return "", e
		}
		is, e := m.load(name)
		if e != api.OK {
			return "", e
		}
		if is, e = plan.Apply(is, []api.Step{s}); e != api.OK {
			return "", e
		}
		return "", m.save(name, is)
	}}
}

// find: any rows.
func (d *draw) find() line {
	name := d.name()
	where, words := d.where()
	steps := []api.Step{{Kind: api.StepKeep, Where: where}}
	l := "select " + name + " where " + words
	if d.n(2) == 0 {
		l, steps = "select "+name, nil
	}
	return line{l, func(m *model) (string, api.Errno) {
		is, e := m.load(name)
		if e != api.OK {
			return "", e
		}
		if is, e = plan.Apply(is, steps); e != api.OK {
			return "", e
		}
		rows := ""
		many, _ := table.Rows(is)
		for at := range many {
			for i, l := range is.Data {
				rows += []string{" ", ""}[max(0, 1-i)] + word(l[at])
			}
			rows += "\n"
		}
		return rows, api.OK
	}}
}

// line: any one.
func (d *draw) line() line {
	switch d.n(12) {
	case 0:
		return d.create()
	case 1, 2, 3:
		return d.find()
	case 4:
		return d.apply()
	case 5:
		return line{"crash " + strconv.FormatUint(d.mask(), 10), func(m *model) (string, api.Errno) { return "", api.OK }}
	case 6:
		bad := []string{"create a b", "insert birds 01", "apply birds nonsense", "select birds where", "crash 01", "nonsense"}[d.n(6)]
		return line{bad, func(m *model) (string, api.Errno) { return "", api.ErrForm }}
	}
	return d.insert()
}

// script: so many lines, all of which is a text, and what is answered.
func (d *draw) script(many int, m *model) ([]string, []string) {
	var lines, answers []string
	for range many {
		l := d.line()
		lines, answers = append(lines, l.text), append(answers, l.answer(m))
	}
	return lines, answers
}

// The desk answers what tables alone would answer, and its files have these.
func TestZ6Tables(t *testing.T) {
	told := map[string]int{}
	for seed := range 60 {
		d := draw(seed)
		m := &model{tables: map[string]api.Table{}}
		f := api.FS{}
		for range 30 {
			lines, answers := d.script(1+d.n(24), m)
			g, answer, e := desk.Run(f, strings.Join(lines, "\n"))
			if e != api.OK || answer != strings.Join(answers, "") || !same(g, m.fs()) {
				t.Fatalf("of %q there is answered %q %d, must be %q, and the files are %s, must be %s", lines, answer, e, answers, shown(g), shown(m.fs()))
			}
			f = g
			for at, a := range answers {
				told[strings.Fields(lines[at])[0]+" "+a[strings.LastIndex(a[:len(a)-1], "\n")+1:]]++
			}
		}
	}
	for _, what := range []string{"create ok\n", "create error 1\n", "create error 6\n", "insert ok\n", "insert error 1\n", "insert error 2\n", "insert error 5\n", "insert error 7\n", "apply ok\n", "apply error 1\n", "apply error 2\n", "apply error 5\n", "apply error 6\n", "apply error 7\n", "select ok\n", "select error 1\n", "select error 2\n", "select error 5\n", "select error 7\n", "crash ok\n"} {
		if told[what] < 5 {
			t.Errorf("%q is told %d times", what, told[what])
		}
	}
}

// What follows is not seen in what was answered: a text does what its lines do, one by
// one.
func TestZ6Parts(t *testing.T) {
	for seed := range 100 {
		d := draw(1000 + seed)
		lines, _ := d.script(24, &model{tables: map[string]api.Table{}})
		if seed%2 == 0 {
			lines = slices.Concat(strings.Split(birdLines, "\n"), lines[4:])
		}
		f, answer := api.FS{}, ""
		for at, l := range lines {
			whole, all, _ := desk.Run(api.FS{}, strings.Join(lines[:at], "\n"))
			if all != answer || !same(whole, f) {
				t.Fatalf("of %q there is answered %q, line by line %q", lines[:at], all, answer)
			}
			g, a, e := desk.Run(f, l)
			if e != api.OK {
				t.Fatalf("Run(%v, %q) is %d", f, l, e)
			}
			f, answer = g, answer+a
		}
		wantRun(t, api.FS{}, strings.Join(lines, "\n"), answer, f, api.OK)
	}
}

// No crash between two lines takes anything away: nothing is left to land.
func TestZ6Crashes(t *testing.T) {
	for seed := range 200 {
		d := draw(2000 + seed)
		f := ran(birdLines)
		lines, _ := d.script(60, &model{tables: map[string]api.Table{}})
		for _, l := range lines {
			left, e := fs.Crash(f, d.mask())
			if e != api.OK || !same(left, f) {
				t.Fatalf("ahead of %q a crash leaves %s %d of %s", l, shown(left), e, shown(f))
			}
			g, alone, e := desk.Run(f, l)
			crash := "crash " + strconv.FormatUint(d.mask(), 10)
			between, answer, be := desk.Run(f, crash+"\n"+l+"\n"+crash)
			if e != api.OK || be != api.OK || !same(g, between) || answer != "ok\n"+alone+"ok\n" {
				t.Fatalf("of %q there is answered %q, between crashes %q", l, alone, answer)
			}
			f = g
		}
	}
}

// Whatever a text is, each line of it is answered, and what is left are files.
func TestP1Strange(t *testing.T) {
	var d draw
	words := []string{"create", "insert", "apply", "select", "crash", "birds", "zz", "shadow", "id", "name", "number", "text", "where", "gone", "is", "and", "not", "1", "-", "x61", "x6", "drop", "keep", "", "A", "\x00\xff", "18446744073709551616"}
	files := []api.FS{{}, ran(birdLines), placed(ran(birdLines), "shadow", long), played(ran(birdLines), api.Op{Kind: api.OpRemove, Name: "birds"}, api.Op{Kind: api.OpWrite, Name: "zz", Text: "x"})}
	for range 20000 {
		var l []string
		for range d.n(8) {
			l = append(l, words[d.n(len(words))])
		}
		if d.n(2) == 0 {
			l = slices.Insert(l, 0, words[d.n(5)], words[5+d.n(3)])
		}
		s := strings.Join(l, []string{" ", " ", " ", "\n"}[d.n(4)])
		f := files[d.n(4)]
		g, answer, e := desk.Run(f, s)
		if e != api.OK || fs.Check(g) != api.OK {
			t.Fatalf("Run(%s, %q) = %s %q %d", shown(f), s, shown(g), answer, e)
		}
		lines := strings.FieldsFunc(s, func(c rune) bool { return c == '\n' })
		if n := strings.Count(answer, "ok\n") + strings.Count(answer, "error "); n != len(lines) {
			t.Fatalf("of %q there is answered %q", s, answer)
		}
	}
}

// roomy: a file system with spare room behind its lists, and that room.
func roomy() (api.FS, api.FS) {
	all := placed(placed(ran(birdLines), "more", "x"), "zz", "spare")
	return api.FS{Nodes: all.Nodes[:2], Dir: all.Dir[:2], Synced: all.Synced[:2]}, all
}

// texts of lines of each kind.
var texts = []string{"", "x", "select birds", "crash 0", "create new id number", "insert birds 1 -", "apply birds drop id", "create shadow a text", strings.Repeat("insert birds 1 x\n", 9) + "apply birds keep where id more 1\nselect birds"}

func TestP2OnlyRead(t *testing.T) {
	for _, s := range texts {
		f, all := roomy()
		g, answer, e := desk.Run(f, s)
		if _, is := roomy(); !same(all, is) || e != api.OK {
			t.Fatalf("of %q a file system, or the room behind its lists, was changed", s)
		}
		clear(all.Nodes)
		clear(all.Dir)
		clear(all.Synced)
		f, _ = roomy()
		wantRun(t, f, s, answer, g, api.OK)
	}
}

// spoil a list, and the room behind it.
func spoil[T any](l []T, with T) {
	l = l[:cap(l)]
	for at := range l {
		l[at] = with
	}
}

func TestP2NewMemory(t *testing.T) {
	for _, s := range texts {
		f, all := roomy()
		want, _, _ := desk.Run(f, s)
		for which := range 3 {
			g, _, _ := desk.Run(f, s)
			if which != 0 {
				spoil(g.Nodes, api.Node{Live: "spoilt"})
				g.Nodes = want.Nodes
			}
			if which != 1 {
				spoil(g.Dir, api.Entry{Name: "spoilt", Node: 7})
				g.Dir = want.Dir
			}
			if which != 2 {
				spoil(g.Synced, api.Entry{Name: "spoilt", Node: 8})
				g.Synced = want.Synced
			}
			if !same(g, want) {
				t.Errorf("of %q two lists share memory", s)
			}
			if _, is := roomy(); !same(all, is) {
				t.Errorf("of %q an answer shares memory with what was handed in", s)
			}
		}
	}
}

func TestP3SameAgain(t *testing.T) {
	f, _ := roomy()
	s := texts[len(texts)-1]
	out, answer, _ := desk.Run(f, s)
	var all sync.WaitGroup
	for i := range 8 {
		all.Go(func() {
			d := draw(i)
			for range 10 {
				lines, _ := d.script(20, &model{tables: map[string]api.Table{}})
				desk.Run(f, strings.Join(lines, "\n"))
				desk.Run(api.FS{}, birdLines)
				wantRun(t, f, s, answer, out, api.OK)
			}
		})
	}
	all.Wait()
}

func TestP4LongOnes(t *testing.T) {
	f := ran(birdLines)
	rest := strings.Repeat("a", 1<<24)
	for line, e := range map[string]api.Errno{
		rest:                                                        api.ErrForm,
		strings.Repeat(" ", 1<<24):                                  api.ErrForm,
		"create " + rest + " a text":                                api.ErrForm,
		"create a " + rest + " text":                                api.ErrForm,
		"create a b " + rest:                                        api.ErrForm,
		"insert birds " + rest:                                      api.ErrForm,
		"insert birds x" + rest + " -":                              api.ErrKind,
		"insert birds 1 x" + rest:                                   api.ErrMany,
		"insert " + rest + " -":                                     api.ErrNone,
		"apply birds " + rest:                                       api.ErrMany,
		"apply " + rest + " drop id":                                api.ErrNone,
		"select " + rest:                                            api.ErrNone,
		"select birds " + rest:                                      api.ErrForm,
		"select birds where " + rest + " gone":                      api.ErrForm,
		"select birds where name is x" + rest:                       api.ErrMany,
		"crash " + strings.Repeat("1", 1<<24):                       api.ErrForm,
		"create a" + strings.Repeat(" b text", 1<<20):               api.ErrMany,
		"insert birds" + strings.Repeat(" 1", 1<<22):                api.ErrKind,
		"insert birds" + strings.Repeat(" 1", 1<<22) + " 01":        api.ErrForm,
		"select birds where" + strings.Repeat(" and", 1<<22):        api.ErrMany,
		"select birds where" + strings.Repeat(" and", 1<<22) + " a": api.ErrForm,
	} {
		g, answer, ge := desk.Run(f, line)
		if answer != "error "+strconv.Itoa(int(e))+"\n" || ge != api.OK || !same(g, f) {
			t.Errorf("Run of %.40q, of %d bytes, = %s %q %d, must be %d", line, len(line), shown(g), answer, ge, e)
		}
	}
	wantRun(t, f, strings.Repeat("\n", 1<<24), "", api.FS{}, api.ErrMany)
	wantRun(t, f, strings.Repeat("crash 0\n", 1<<20), "", api.FS{}, api.ErrMany)
	many := api.FS{Nodes: make([]api.Node, 1<<20), Dir: make([]api.Entry, 1<<20)}
	wantRun(t, many, "crash 0", "", api.FS{}, api.ErrMany)
}
