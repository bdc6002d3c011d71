// Package laid: files as they are laid out: a table's chunks, in the order in which a
// file has them, and what stands around these.
package laid

import (
	"strings"

	"hypostyle/api"
	"hypostyle/chunk"
	"hypostyle/fixed"
	"hypostyle/seal"
	"hypostyle/table"
	"hypostyle/vary"
)

// LengthSize: bytes of the number that tells how many a foot has.
const LengthSize = 4

// File: a table that is fit to be written in pages and groups of these sizes.
type File struct {
	table            api.Table
	per, group, rows int
}

// Of: the file of a table, if it may be written in pages of so many cells and groups of
// so many rows. It is of the table itself, which is only read.
func Of(t api.Table, per, group int) (File, api.Errno) {
	rows, e := table.Rows(t)
	switch {
	case e != api.OK:
		return File{}, e
	case group < 1 || group > api.MaxRows, per < 1 || per > api.MaxList:
		return File{}, api.ErrRange
	case rows > group*api.MaxGroups, min(rows, group) > per*api.MaxPages:
		return File{}, api.ErrMany
	}
	return File{t, per, group, rows}, api.OK
}

// groups: how many there are.
func (f File) groups() int { return (f.rows + f.group - 1) / f.group }

// span: the rows of a group, from the first one on, and ahead of which they end.
func (f File) span(group int) (int, int) {
	from := group * f.group
	return from, min(from+f.group, f.rows)
}

// Many: how many chunks there are.
func (f File) Many() int { return f.groups() * len(f.table.Cols) }

// Chunk: the bytes of the chunk at a place: group by group there is one of each column.
func (f File) Chunk(at int) string {
	cols := len(f.table.Cols)
	column := at % cols
	from, end := f.span(at / cols)
	s, _ := chunk.Write(f.table.Cols[column].Kind, f.table.Data[column][from:end], f.per)
	return s
}

// Text: all of the file, of which these are all chunks, in order.
func (f File) Text(chunks []string) string {
	cols := len(f.table.Cols)
	var groups []api.Group
	for at := range f.groups() {
		from, end := f.span(at)
		g := api.Group{Rows: end - from}
		for _, s := range chunks[at*cols : (at+1)*cols] {
			g.Sizes = append(g.Sizes, len(s))
		}
		groups = append(groups, g)
	}
	return api.Magic + strings.Join(chunks, "") + footed(f.table.Cols, groups)
}

// number: the bytes of one in a foot.
func number(n int) string { return vary.Write(uint64(n)) }

// footed: the end of a file, behind its chunks: the foot, how many bytes that has, and
// Magic (T1).
func footed(cols []api.Column, groups []api.Group) string {
	body := number(len(cols))
	for _, c := range cols {
		body += string([]byte{byte(c.Kind)}) + number(len(c.Name)) + c.Name
	}
	body += number(len(groups))
	for _, g := range groups {
		body += number(g.Rows)
		for _, size := range g.Sizes {
			body += number(size)
		}
	}
	foot := seal.Put(body)
	return foot + fixed.Write(uint64(len(foot)), LengthSize) + api.Magic
}
