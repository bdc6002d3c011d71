package desk

import (
	"hypostyle/api"
	"hypostyle/file"
	"hypostyle/fs"
	"hypostyle/naming"
	"hypostyle/plan"
	"hypostyle/rewrite"
	"hypostyle/table"
	"hypostyle/words"
)

// load: the table of a file.
func (d *desk) load(name string) (api.Table, api.Errno) {
	text, e := fs.Read(d.files, name)
	if e != api.OK {
		return api.Table{}, e
	}
	return file.Read(text)
}

// save a table as a file (Z5).
func (d *desk) save(name string, t api.Table) api.Errno {
	text, e := file.Write(t, api.DeskPer, api.DeskGroup)
	if e != api.OK {
		return e
	}
	ops, e := rewrite.Steps(d.files, name, text)
	if e != api.OK {
		return e
	}
	return d.become(fs.Play(d.files, ops))
}

// create a file of an empty table (Z2). Its Check is the one with which file.Write begins.
func (d *desk) create(r *words.Reader) api.Errno {
	name := r.Name()
	cols := words.All(r, api.MaxCols, func() api.Column {
		return api.Column{Name: r.Name(), Kind: r.Kind()}
	})
	r.Must(naming.IsName(name) && len(cols) > 0)
	if _, e := fs.Read(d.files, name); e == api.OK {
		return api.ErrTwice
	}
	return d.save(name, api.Table{Cols: cols, Data: make([][]api.Cell, len(cols))})
}

// insert a row (Z3). It is a table of one row, of the same columns: that Append checks,
// and so each cell by its column's kind, and then how many rows there are.
func (d *desk) insert(r *words.Reader) api.Errno {
	name := r.Name()
	cells := words.All(r, api.MaxCols, r.Cell)
	r.Must(len(cells) > 0)
	t, e := d.load(name)
	if e != api.OK {
		return e
	}
	if len(cells) != len(t.Cols) {
		return api.ErrKind
	}
	row := api.Table{Cols: t.Cols}
	for _, c := range cells {
		row.Data = append(row.Data, []api.Cell{c})
	}
	if t, e = table.Append(t, row); e != api.OK {
		return e
	}
	return d.save(name, t)
}

// apply a step to a file (Z3).
func (d *desk) apply(r *words.Reader) api.Errno {
	name := r.Name()
	l, e := plan.Parse(r.Rest() + words.End)
	if e != api.OK {
		return e
	}
	return d.become(rewrite.Rewrite(d.files, name, l, api.DeskPer, api.DeskGroup))
}

// find rows of a file, and say them (Z4). Without a condition it is a plan without steps,
// which leaves a table as it is.
func (d *desk) find(r *words.Reader) api.Errno {
	name := r.Name()
	var l []api.Step
	if r.More() {
		where := r.Where()
		r.Must(len(where) > 0)
		l = append(l, api.Step{Kind: api.StepKeep, Where: where})
	}
	t, e := d.load(name)
	if e != api.OK {
		return e
	}
	if t, e = plan.Apply(t, l); e != api.OK {
		return e
	}
	d.sayRows(t)
	return api.OK
}

// sayRows: a line of each row of a table that is one.
func (d *desk) sayRows(t api.Table) {
	rows, _ := table.Rows(t)
	for at := range rows {
		row, _ := table.Row(t, at)
		var l []string
		for _, c := range row {
			l = append(l, words.Cell(c))
		}
		d.say(l...)
	}
}

// crash, and mend what that left (Z4).
func (d *desk) crash(r *words.Reader) api.Errno {
	mask := r.Number()
	r.End()
	f, e := fs.Crash(d.files, mask)
	if e != api.OK {
		return e
	}
	return d.become(rewrite.Recover(f))
}
