// Package nodes: conditions as lists of nodes, each one right behind those that it is
// of, whatever a node says its column by.
package nodes

import "hypostyle/api"

// Parts: how many conditions a node is of.
func Parts(op int) int {
	switch op {
	case api.And, api.Or:
		return 2
	case api.Not:
		return 1
	}
	return 0
}

// Check: are these nodes of one condition? What is wrong with a node by itself its own
// package tells.
func Check[N any](l []N, op func(n N) int, wrong func(n N) api.Errno) api.Errno {
	if len(l) > api.MaxCond {
		return api.ErrMany
	}
	// Conditions that belong to nobody; of no nodes at all there is not even one.
	free := 0
	for _, n := range l {
		is := op(n)
		if is < api.Is || is > api.Not {
			return api.ErrKind
		}
		if e := wrong(n); e != api.OK {
			return e
		}
		if free < Parts(is) {
			return api.ErrForm
		}
		free += 1 - Parts(is)
	}
	if free != 1 {
		return api.ErrForm
	}
	return api.OK
}
