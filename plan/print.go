package plan

import (
	"strings"

	"hypostyle/api"
	"hypostyle/words"
)

// lineOf a step that Check let pass (V2).
func lineOf(s api.Step) string {
	var all []string
	put := func(more ...string) { all = append(all, more...) }
	switch s.Kind {
	case api.StepAdd:
		put(add, s.Name, s.To, words.Cell(s.C))
	case api.StepDrop:
		put(drop, s.Name)
	case api.StepRename:
		put(rename, s.Name, s.To)
	case api.StepRedact:
		put(redact, s.Name, words.Where)
	case api.StepKeep:
		put(keep, words.Where)
	}
	for _, n := range s.Where {
		switch {
		case !leaf(n.Op):
			put(words.Op(n.Op))
		case n.Op == api.Gone:
			put(n.Name, words.Op(n.Op))
		default:
			put(n.Name, words.Op(n.Op), words.Cell(n.C))
		}
	}
	return strings.Join(all, words.Blank) + words.End
}

// Print: the text of a plan (V3).
func Print(l []api.Step) (string, api.Errno) {
	if e := Check(l); e != api.OK {
		return "", e
	}
	s := ""
	for _, one := range l {
		s += lineOf(one)
	}
	if len(s) > api.MaxPlan {
		return "", api.ErrMany
	}
	return s, api.OK
}
