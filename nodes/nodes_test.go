package nodes_test

import (
	"math"
	"slices"
	"testing"

	"hypostyle/api"
	"hypostyle/nodes"
)

// spoilt: nodes of ops from here on stand for those that are wrong by themselves.
const spoilt = 100

// check: of nodes that are numbers: their ops, with something wrong or not.
func check(l []int) api.Errno {
	return nodes.Check(l, func(n int) int { return n % spoilt }, func(n int) api.Errno {
		if n >= spoilt {
			return api.ErrSum
		}
		return api.OK
	})
}

const (
	is   = api.Is
	gone = api.Gone
	and  = api.And
	or   = api.Or
	not  = api.Not
)

func wantCheck(t *testing.T, e api.Errno, l ...int) {
	t.Helper()
	if g := check(l); g != e {
		t.Errorf("Check(%v) = %d, must be %d", l, g, e)
	}
}

func TestO1Parts(t *testing.T) {
	for op, many := range map[int]int{api.Is: 0, api.Less: 0, api.More: 0, api.Gone: 0, and: 2, or: 2, not: 1} {
		if g := nodes.Parts(op); g != many {
			t.Errorf("Parts(%d) = %d, must be %d", op, g, many)
		}
	}
}

func TestO1Good(t *testing.T) {
	for op := api.Is; op <= api.Gone; op++ {
		wantCheck(t, api.OK, op)
		wantCheck(t, api.OK, op, not)
		wantCheck(t, api.OK, op, op, and)
		wantCheck(t, api.OK, op, op, or)
	}
	wantCheck(t, api.OK, is, not, not, is, and, gone, or, not)
	wantCheck(t, api.OK, is, is, is, is, and, or, and)
	wantCheck(t, api.OK, append([]int{is}, slices.Repeat([]int{not}, 15)...)...)
}

func TestO1Errors(t *testing.T) {
	wantCheck(t, api.ErrForm)
	wantCheck(t, api.ErrForm, not)
	wantCheck(t, api.ErrForm, is, and)
	wantCheck(t, api.ErrForm, is, or, is)
	wantCheck(t, api.ErrForm, is, is)
	wantCheck(t, api.ErrForm, is, is, and, and)
	wantCheck(t, api.ErrForm, is, not, is)
	for _, op := range []int{math.MinInt, -1, 0, 8, 99} {
		wantCheck(t, api.ErrKind, op)
		wantCheck(t, api.ErrKind, is, op)
	}
	wantCheck(t, api.ErrMany, make([]int, 17)...)
	wantCheck(t, api.ErrMany, append([]int{is}, slices.Repeat([]int{not}, 16)...)...)
	wantCheck(t, api.ErrMany, make([]int, 1<<20)...)
}

// Node by node, of each one its op first, then itself, then those that it is of.
func TestO1Order(t *testing.T) {
	wantCheck(t, api.ErrSum, is+spoilt)
	wantCheck(t, api.ErrKind, spoilt)
	wantCheck(t, api.ErrKind, spoilt+8, is+spoilt)
	wantCheck(t, api.ErrSum, is, is+spoilt, 0)
	wantCheck(t, api.ErrSum, and+spoilt)
	wantCheck(t, api.ErrForm, and, is+spoilt)
	wantCheck(t, api.ErrForm, not, 0)
	wantCheck(t, api.ErrSum, is, is, is+spoilt)
	wantCheck(t, api.ErrMany, slices.Repeat([]int{is + spoilt}, 17)...)
}
