package file

import (
	"strings"

	"hypostyle/api"
	"hypostyle/fixed"
	"hypostyle/laid"
	"hypostyle/seal"
	"hypostyle/table"
	"hypostyle/vary"
)

// Why somebody reads a foot no further: it is not of its form, or damaged.
type (
	formless struct{}
	damaged  struct{}
)

// tried: what became of somebody's reading.
func tried(reading func()) (e api.Errno) {
	defer func() {
		switch p := recover().(type) {
		case nil:
		case formless:
			e = api.ErrForm
		case damaged:
			e = api.ErrSum
		default:
			panic(p)
		}
	}()
	reading()
	return api.OK
}

// must: go no further, if something is not of its form.
func must(ok bool) {
	if !ok {
		panic(formless{})
	}
}

// between: what stands between both Magics of a file.
func between(s string) string {
	const magic = len(api.Magic)
	must(len(s) >= 2*magic && strings.HasPrefix(s, api.Magic) && strings.HasSuffix(s, api.Magic))
	return s[magic : len(s)-magic]
}

// parted: a file's chunks, and the body of its foot. How long the foot is, is held
// against what is there before anything is reckoned of it, so that nothing runs over.
func parted(s string) (chunks, body string) {
	inner := between(s)
	end := len(inner) - laid.LengthSize
	must(end >= 0)
	long := fixed.Read(inner[end:])
	must(long <= uint64(end))
	from := end - int(long)
	body, size, e := seal.Open(inner[from:end])
	if e != api.OK || size != int(long) {
		panic(damaged{})
	}
	return inner[:from], body
}

// reader: who reads the body of a foot.
type reader struct{ left string }

// number: the next one, which may be at most so great.
func (r *reader) number(most int) int {
	n, size, e := vary.Read(r.left)
	must(e == api.OK && n <= uint64(most))
	r.left = r.left[size:]
	return int(n)
}

// bytes: so many more. They are a copy, so that they do not hold on to all that they
// were read of.
func (r *reader) bytes(many int) string {
	must(many <= len(r.left))
	s := strings.Clone(r.left[:many])
	r.left = r.left[many:]
	return s
}

// cols: the columns, such as a table may have.
func (r *reader) cols() []api.Column {
	cols := make([]api.Column, r.number(api.MaxCols))
	for i := range cols {
		cols[i].Kind = int(r.bytes(1)[0])
		cols[i].Name = r.bytes(r.number(api.MaxName))
	}
	must(table.Check(empty(cols)) == api.OK)
	return cols
}

// groups of so many columns, of which all chunks together have so many bytes. A number
// may be at most what those before it left over, so that no sum runs over.
func (r *reader) groups(cols, room int) []api.Group {
	groups := make([]api.Group, r.number(api.MaxGroups))
	must(cols > 0 || len(groups) == 0)
	rows := api.MaxRows
	for i := range groups {
		g := api.Group{Rows: r.number(rows), Sizes: make([]int, cols)}
		must(g.Rows > 0)
		rows -= g.Rows
		for c := range g.Sizes {
			g.Sizes[c] = r.number(room)
			room -= g.Sizes[c]
		}
		groups[i] = g
	}
	must(room == 0)
	return groups
}

// Foot: what the foot of a file says: its columns, and its groups (T2).
func Foot(s string) ([]api.Column, []api.Group, api.Errno) {
	var cols []api.Column
	var groups []api.Group
	e := tried(func() {
		chunks, body := parted(s)
		r := reader{body}
		cols = r.cols()
		groups = r.groups(len(cols), len(chunks))
		must(r.left == "")
	})
	if e != api.OK {
		return nil, nil, e
	}
	return cols, groups, api.OK
}
