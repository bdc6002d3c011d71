package table

import (
	"slices"

	"hypostyle/api"
	"hypostyle/naming"
	"hypostyle/nulls"
	"hypostyle/pred"
)

// isTrue: what Ask of chapter 15 answers, if a condition is True.
const isTrue = 2

// changed: a copy of a table, changed; so the change may do with it as it likes. Of a
// change that finds something wrong nothing is handed out.
func changed(t api.Table, change func(own *api.Table) api.Errno) (api.Table, api.Errno) {
	if e := Check(t); e != api.OK {
		return api.Table{}, e
	}
	own := api.Table{Cols: slices.Clone(t.Cols)}
	for _, l := range t.Data {
		own.Data = append(own.Data, slices.Clone(l))
	}
	if e := change(&own); e != api.OK {
		return api.Table{}, e
	}
	return own, api.OK
}

// Add: a column more at the end, each of its cells the same (S2).
func Add(t api.Table, c api.Column, x api.Cell) (api.Table, api.Errno) {
	return changed(t, func(own *api.Table) api.Errno {
		if e := fresh(own.Cols, c); e != api.OK {
			return e
		}
		if len(own.Cols) == api.MaxCols {
			return api.ErrMany
		}
		cells := []api.Cell{x}
		if e := nulls.Check(c.Kind, cells); e != api.OK {
			return e
		}
		own.Data = append(own.Data, slices.Repeat(cells, rows(*own)))
		own.Cols = append(own.Cols, c)
		return api.OK
	})
}

// Drop: without the column of a name (S2).
func Drop(t api.Table, name string) (api.Table, api.Errno) {
	return changed(t, func(own *api.Table) api.Errno {
		at := place(own.Cols, name)
		if at < 0 {
			return api.ErrNone
		}
		own.Cols = slices.Delete(own.Cols, at, at+1)
		own.Data = slices.Delete(own.Data, at, at+1)
		return api.OK
	})
}

// Rename: a column has another name, which may be the one that it had (S2).
func Rename(t api.Table, old, name string) (api.Table, api.Errno) {
	return changed(t, func(own *api.Table) api.Errno {
		at := place(own.Cols, old)
		if at < 0 {
			return api.ErrNone
		}
		if !naming.IsName(name) {
			return api.ErrForm
		}
		if other := place(own.Cols, name); other >= 0 && other != at {
			return api.ErrTwice
		}
		own.Cols[at].Name = name
		return api.OK
	})
}

// trueOf: of which rows of a table a condition is True.
func trueOf(t api.Table, p []api.Cond) ([]bool, api.Errno) {
	var kinds []int
	for _, c := range t.Cols {
		kinds = append(kinds, c.Kind)
	}
	if e := pred.Check(p, kinds); e != api.OK {
		return nil, e
	}
	marks := make([]bool, rows(t))
	for at := range marks {
		is, _ := pred.Ask(p, kinds, row(t, at))
		marks[at] = is == isTrue
	}
	return marks, api.OK
}

// Redact: a column's cells become Nulls where a condition is True (S3). The marks are
// made first: the condition may be of the very column.
func Redact(t api.Table, name string, p []api.Cond) (api.Table, api.Errno) {
	return changed(t, func(own *api.Table) api.Errno {
		column := place(own.Cols, name)
		if column < 0 {
			return api.ErrNone
		}
		marks, e := trueOf(*own, p)
		if e != api.OK {
			return e
		}
		for at, mark := range marks {
			if mark {
				own.Data[column][at] = api.Cell{}
			}
		}
		return api.OK
	})
}

// marked: those cells whose mark is true.
func marked(l []api.Cell, marks []bool) []api.Cell {
	var out []api.Cell
	for at, mark := range marks {
		if mark {
			out = append(out, l[at])
		}
	}
	return out
}

// Keep: only rows of which a condition is True (S3).
func Keep(t api.Table, p []api.Cond) (api.Table, api.Errno) {
	return changed(t, func(own *api.Table) api.Errno {
		marks, e := trueOf(*own, p)
		if e != api.OK {
			return e
		}
		for i, l := range own.Data {
			own.Data[i] = marked(l, marks)
		}
		return api.OK
	})
}

// Project: columns of names, in this order (S4). No name may come twice, so each
// column's cells go to one place alone.
func Project(t api.Table, names []string) (api.Table, api.Errno) {
	return changed(t, func(own *api.Table) api.Errno {
		var out api.Table
		for _, name := range names {
			at := place(own.Cols, name)
			if at < 0 {
				return api.ErrNone
			}
			if place(out.Cols, name) >= 0 {
				return api.ErrTwice
			}
			out.Cols = append(out.Cols, own.Cols[at])
			out.Data = append(out.Data, own.Data[at])
		}
		*own = out
		return api.OK
	})
}

// Slice: so many rows from a place on, fewer, if there are no more (S4). How many are
// left is reckoned first: from and many together might run over.
func Slice(t api.Table, from, many int) (api.Table, api.Errno) {
	return changed(t, func(own *api.Table) api.Errno {
		if from < 0 || many < 0 {
			return api.ErrRange
		}
		first := min(from, rows(*own))
		end := first + min(many, rows(*own)-first)
		for i, l := range own.Data {
			own.Data[i] = l[first:end]
		}
		return api.OK
	})
}

// Append: rows of another table behind those of a table (S4).
func Append(a, b api.Table) (api.Table, api.Errno) {
	return changed(a, func(own *api.Table) api.Errno {
		if e := Check(b); e != api.OK {
			return e
		}
		if !slices.Equal(own.Cols, b.Cols) {
			return api.ErrKind
		}
		if rows(*own)+rows(b) > api.MaxRows {
			return api.ErrMany
		}
		for i, l := range b.Data {
			own.Data[i] = append(own.Data[i], l...)
		}
		return api.OK
	})
}
