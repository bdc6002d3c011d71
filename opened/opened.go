// Package opened: a file whose foot was read, and what its chunks have.
package opened

import (
	"hypostyle/api"
	"hypostyle/chunk"
)

// File: its text, and what its foot says: the chunks lie between Magic and the foot.
type File struct {
	Text   string
	Cols   []api.Column
	Groups []api.Group
}

// At: where the chunk of a column in a group begins.
func (f File) At(group, column int) int {
	at := len(api.Magic)
	for _, g := range f.Groups[:group] {
		for _, size := range g.Sizes {
			at += size
		}
	}
	for _, size := range f.Groups[group].Sizes[:column] {
		at += size
	}
	return at
}

// Chunk: the cells of a column in a group, if they are what the foot says.
func (f File) Chunk(group, column int) ([]api.Cell, api.Errno) {
	kind, cells, size, e := chunk.Read(f.Text[f.At(group, column):])
	if e != api.OK {
		return nil, e
	}
	said := f.Groups[group]
	if size != said.Sizes[column] || len(cells) != said.Rows || kind != f.Cols[column].Kind {
		return nil, api.ErrState
	}
	return cells, api.OK
}

// Rows: so many cells of a column from a place on, fewer, if there are no more; no chunk
// but theirs is read for it. From and many, which are not below 0, are reckoned down
// group by group: both together might run over.
func (f File) Rows(column, from, many int) ([]api.Cell, api.Errno) {
	var out []api.Cell
	for at, g := range f.Groups {
		past := min(from, g.Rows)
		wanted := min(many, g.Rows-past)
		if wanted > 0 {
			l, e := f.Chunk(at, column)
			if e != api.OK {
				return nil, e
			}
			out = append(out, l[past:past+wanted]...)
		}
		from, many = from-past, many-wanted
	}
	return out, api.OK
}
