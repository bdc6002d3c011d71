package plan

import (
	"strconv"
	"strings"

	"hypostyle/api"
)

// spelt: a cell as a word (V2).
func spelt(c api.Cell) string {
	switch c.Kind {
	case api.Number:
		return strconv.FormatUint(c.N, 10)
	case api.Text:
		b := []byte(sign)
		for i := range len(c.S) {
			b = append(b, digits[c.S[i]>>4], digits[c.S[i]&15])
		}
		return string(b)
	}
	return null
}

// lineOf a step that Check let pass (V2).
func lineOf(s api.Step) string {
	var all []string
	put := func(words ...string) { all = append(all, words...) }
	switch s.Kind {
	case api.StepAdd:
		put(add, s.Name, s.To, spelt(s.C))
	case api.StepDrop:
		put(drop, s.Name)
	case api.StepRename:
		put(rename, s.Name, s.To)
	case api.StepRedact:
		put(redact, s.Name, wherever)
	case api.StepKeep:
		put(keep, wherever)
	}
	for _, n := range s.Where {
		switch {
		case !leaf(n.Op):
			put(wordOf(n.Op))
		case n.Op == api.Gone:
			put(n.Name, wordOf(n.Op))
		default:
			put(n.Name, wordOf(n.Op), spelt(n.C))
		}
	}
	return strings.Join(all, blank) + end
}

// Print: the text of a plan (V3).
func Print(l []api.Step) (string, api.Errno) {
	if e := Check(l); e != api.OK {
		return "", e
	}
	s := ""
	for _, one := range l {
		s += lineOf(one)
	}
	if len(s) > api.MaxPlan {
		return "", api.ErrMany
	}
	return s, api.OK
}
