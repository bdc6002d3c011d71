package shred

import "hypostyle/api"

// node: a field, as a tree with its kids.
type node struct {
	rule     int
	def, rep int // of the way down to it, itself among them: fields that are not Required, and Repeated ones
	from, to int // its leaves' columns: from this one on, ahead of that one
	kids     []node
}

// gardener: who makes a tree of fields that Check let pass.
type gardener struct {
	left    []api.Field
	columns int
}

// next: the tree of the next field that is left, below def fields that are not
// Required, rep of them Repeated.
func (g *gardener) next(def, rep int) node {
	f := g.left[0]
	g.left = g.left[1:]
	if f.Rule != api.Required {
		def++
	}
	if f.Rule == api.Repeated {
		rep++
	}
	n := node{rule: f.Rule, def: def, rep: rep, from: g.columns}
	for range f.Kids {
		n.kids = append(n.kids, g.next(def, rep))
	}
	if f.Kids == 0 {
		g.columns++
	}
	n.to = g.columns
	return n
}

// tree of a form.
func tree(form []api.Field) (node, api.Errno) {
	if e := Check(form); e != api.OK {
		return node{}, e
	}
	g := gardener{left: form}
	return g.next(0, 0), api.OK
}

// Check: is it a form? (N1)
func Check(form []api.Field) api.Errno {
	if len(form) > api.MaxFields {
		return api.ErrMany
	}
	// Fields that those ahead ask for; an empty form has not even the first one.
	wanted := 1
	for _, f := range form {
		switch {
		case f.Rule < api.Required || f.Rule > api.Repeated:
			return api.ErrKind
		case f.Kids < 0 || f.Kids > api.MaxKids:
			return api.ErrRange
		case wanted == 0:
			return api.ErrForm
		}
		wanted += f.Kids - 1
	}
	if wanted != 0 {
		return api.ErrForm
	}
	if form[0].Rule != api.Required || form[0].Kids == 0 {
		return api.ErrState
	}
	return api.OK
}

// Leaves: how many leaves a form has (N1).
func Leaves(form []api.Field) (int, api.Errno) {
	top, e := tree(form)
	return top.to, e
}
