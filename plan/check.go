package plan

import (
	"hypostyle/api"
	"hypostyle/naming"
	"hypostyle/nodes"
	"hypostyle/nulls"
	"hypostyle/words"
)

// leaf: is a node of an op that there is of a column?
func leaf(op int) bool { return nodes.Parts(op) == 0 }

// form: what is told of that which must be so.
func form(ok bool) api.Errno {
	if !ok {
		return api.ErrForm
	}
	return api.OK
}

// unsaid: is a cell its zero value?
func unsaid(c api.Cell) bool { return c == api.Cell{} }

// node: may a node be said, by itself? Of no column that is called like an op: in a text
// its name could not be told from that.
func node(n api.Named) api.Errno {
	switch {
	case !leaf(n.Op):
		return form(n.Name == "" && unsaid(n.C))
	case !naming.IsName(n.Name), words.OpOf(n.Name) != 0:
		return api.ErrForm
	case n.Op == api.Gone:
		return form(unsaid(n.C))
	}
	return nulls.Check(n.C.Kind, []api.Cell{n.C})
}

// where: is Where what a step of its kind must have?
func where(s api.Step) api.Errno {
	if s.Kind != api.StepRedact && s.Kind != api.StepKeep {
		return form(len(s.Where) == 0)
	}
	return nodes.Check(s.Where, func(n api.Named) int { return n.Op }, node)
}

// name: is Name what a step of its kind must have?
func name(s api.Step) bool {
	if s.Kind == api.StepKeep {
		return s.Name == ""
	}
	return naming.IsName(s.Name)
}

// to: is To what a step of its kind must have?
func to(s api.Step) bool {
	switch s.Kind {
	case api.StepAdd:
		return words.KindOf(s.To) != api.Null
	case api.StepRename:
		return naming.IsName(s.To)
	}
	return s.To == ""
}

// cell: is C what a step of its kind must have?
func cell(s api.Step) api.Errno {
	if s.Kind == api.StepAdd {
		return nulls.Check(words.KindOf(s.To), []api.Cell{s.C})
	}
	return form(unsaid(s.C))
}

// step: may a step stand in a plan?
func step(s api.Step) api.Errno {
	if s.Kind < api.StepAdd || s.Kind > api.StepKeep {
		return api.ErrKind
	}
	if !name(s) || !to(s) {
		return api.ErrForm
	}
	if e := cell(s); e != api.OK {
		return e
	}
	return where(s)
}

// Check: is it a plan? (V1)
func Check(l []api.Step) api.Errno {
	if len(l) > api.MaxSteps {
		return api.ErrMany
	}
	for _, s := range l {
		if e := step(s); e != api.OK {
			return e
		}
	}
	return api.OK
}
