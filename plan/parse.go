package plan

import (
	"strings"

	"hypostyle/api"
	"hypostyle/words"
)

// read the step that all of a line is.
func read(r *words.Reader) api.Step {
	var s api.Step
	switch r.Word() {
	case add:
		s = api.Step{Kind: api.StepAdd, Name: r.Name(), To: words.Kind(r.Kind()), C: r.Cell()}
	case drop:
		s = api.Step{Kind: api.StepDrop, Name: r.Name()}
	case rename:
		s = api.Step{Kind: api.StepRename, Name: r.Name(), To: r.Name()}
	case redact:
		s = api.Step{Kind: api.StepRedact, Name: r.Name(), Where: r.Where()}
	case keep:
		s = api.Step{Kind: api.StepKeep, Where: r.Where()}
	default:
		r.Must(false)
	}
	r.End()
	return s
}

// steps that a text is, if it is of their form; nobody has checked them.
func steps(s string) ([]api.Step, api.Errno) {
	var l []api.Step
	for s != "" {
		line, rest, ended := strings.Cut(s, words.End)
		ok := words.Read(line, func(r *words.Reader) { l = append(l, read(r)) })
		if !ended || !ok {
			return nil, api.ErrForm
		}
		s = rest
	}
	return l, api.OK
}

// Parse: the plan of a text (V3).
func Parse(s string) ([]api.Step, api.Errno) {
	if len(s) > api.MaxPlan {
		return nil, api.ErrMany
	}
	l, e := steps(s)
	if e != api.OK {
		return nil, e
	}
	if e := Check(l); e != api.OK {
		return nil, e
	}
	return l, api.OK
}
