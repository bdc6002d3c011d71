package runs_test

import (
	"math"
	"slices"
	"sync"
	"testing"

	"hypostyle/api"
	"hypostyle/runs"
)

// of: runs, told as numbers and how many of each there are, by turns.
func of(l ...int) []api.Run {
	var out []api.Run
	for i := 0; i < len(l); i += 2 {
		out = append(out, api.Run{N: uint64(l[i]), Many: l[i+1]})
	}
	return out
}

// repeated: so many of a number.
func repeated(n uint64, many int) []uint64 { return slices.Repeat([]uint64{n}, many) }

// every: all lists of so many numbers below a bound.
func every(many int, below uint64) [][]uint64 {
	all := [][]uint64{nil}
	for range many {
		var longer [][]uint64
		for _, l := range all {
			for n := range below {
				longer = append(longer, append(slices.Clone(l), n))
			}
		}
		all = longer
	}
	return all
}

// sample: so many numbers, in runs of several lengths.
func sample(many int) []uint64 {
	l := make([]uint64, many)
	for i := range l {
		l[i] = uint64((i+many)/5*(i/3)) % 4
	}
	return l
}

// told: what runs are, each number for itself.
func told(l []api.Run) []uint64 {
	var out []uint64
	for _, r := range l {
		out = append(out, repeated(r.N, r.Many)...)
	}
	return out
}

func wantOf(t *testing.T, l []uint64, r []api.Run, e api.Errno) {
	t.Helper()
	if gr, ge := runs.Of(l); !slices.Equal(gr, r) || ge != e {
		t.Errorf("Of(%d) = %v %d, must be %v %d", l, gr, ge, r, e)
	}
}

func wantCheck(t *testing.T, r []api.Run, e api.Errno) {
	t.Helper()
	if got := runs.Check(r); got != e {
		t.Errorf("Check(%v) = %d, must be %d", r, got, e)
	}
}

func wantExpand(t *testing.T, r []api.Run, l []uint64, e api.Errno) {
	t.Helper()
	if gl, ge := runs.Expand(r); !slices.Equal(gl, l) || ge != e {
		t.Errorf("Expand(%v) = %d %d, must be %d %d", r, gl, ge, l, e)
	}
}

func wantAt(t *testing.T, r []api.Run, at int, n uint64, e api.Errno) {
	t.Helper()
	if gn, ge := runs.At(r, at); gn != n || ge != e {
		t.Errorf("At(%v, %d) = %d %d, must be %d %d", r, at, gn, ge, n, e)
	}
}

func wantJoined(t *testing.T, a, b, r []api.Run, e api.Errno) {
	t.Helper()
	if gr, ge := runs.Joined(a, b); !slices.Equal(gr, r) || ge != e {
		t.Errorf("Joined(%v, %v) = %v %d, must be %v %d", a, b, gr, ge, r, e)
	}
}

func TestD1Of(t *testing.T) {
	wantOf(t, nil, nil, api.OK)
	wantOf(t, []uint64{}, nil, api.OK)
	wantOf(t, []uint64{0}, of(0, 1), api.OK)
	wantOf(t, []uint64{7, 7}, of(7, 2), api.OK)
	wantOf(t, []uint64{7, 7, 3, 7}, of(7, 2, 3, 1, 7, 1), api.OK)
	wantOf(t, []uint64{0, 0, 0, 1, 1, 0}, of(0, 3, 1, 2, 0, 1), api.OK)
	wantOf(t, []uint64{1<<64 - 1, 1<<64 - 1, 0}, of(-1, 2, 0, 1), api.OK)
	wantOf(t, repeated(9, api.MaxList), of(9, api.MaxList), api.OK)
	var single []api.Run
	var numbers []uint64
	for n := range uint64(api.MaxList) {
		numbers = append(numbers, n%3)
		single = append(single, api.Run{N: n % 3, Many: 1})
	}
	wantOf(t, numbers, single, api.OK)
}

func TestD1OfErrors(t *testing.T) {
	wantOf(t, repeated(0, api.MaxList+1), nil, api.ErrMany)
	wantOf(t, sample(api.MaxList+1), nil, api.ErrMany)
	wantOf(t, sample(5000), nil, api.ErrMany)
}

func TestD1OfEveryList(t *testing.T) {
	for many := range 8 {
		for _, l := range every(many, 3) {
			r, e := runs.Of(l)
			if e != api.OK || !slices.Equal(told(r), l) {
				t.Errorf("Of(%d) = %v %d", l, r, e)
			}
			wantCheck(t, r, api.OK)
		}
	}
}

// wrongs: what is told as runs, but is none of a list, and why.
func wrongs() []struct {
	l []api.Run
	e api.Errno
} {
	return []struct {
		l []api.Run
		e api.Errno
	}{
		{of(1, 0), api.ErrRange},
		{of(0, 0), api.ErrRange},
		{of(1, -1), api.ErrRange},
		{of(1, math.MinInt), api.ErrRange},
		{of(1, api.MaxList+1), api.ErrRange},
		{of(1, math.MaxInt), api.ErrRange},
		{of(1, 2, 2, 0), api.ErrRange},
		{of(1, 2, 2, 65), api.ErrRange},
		{of(1, 1, 1, 1), api.ErrTwice},
		{of(0, 1, 0, 1), api.ErrTwice},
		{of(1, 1, 2, 1, 2, 3), api.ErrTwice},
		{of(1, 64, 2, 1), api.ErrMany},
		{of(1, 40, 2, 25), api.ErrMany},
		{of(1, 30, 2, 30, 3, 5), api.ErrMany},
		// Of one run, the error named first.
		{of(1, 1, 1, 0), api.ErrRange},
		{of(1, 64, 1, 65), api.ErrRange},
		{of(1, 64, 2, 65), api.ErrRange},
		{of(1, 64, 1, 1), api.ErrTwice},
		// Of several, the first one that is wrong.
		{of(1, 1, 1, 1, 2, 0), api.ErrTwice},
		{of(1, 64, 2, 1, 3, 0), api.ErrMany},
		{of(1, 64, 2, 1, 2, 1), api.ErrMany},
		{of(1, 0, 1, 1), api.ErrRange},
		{of(1, -1, 2, 66), api.ErrRange},
		{of(1, math.MaxInt, 2, math.MaxInt), api.ErrRange},
	}
}

func TestD1Check(t *testing.T) {
	for _, r := range [][]api.Run{
		nil, {}, of(0, 1), of(1, 1), of(1, 64), of(1, 40, 2, 24), of(1, 63, 0, 1), of(0, 1, 1, 1, 0, 1), of(-1, 3, 0, 61),
	} {
		wantCheck(t, r, api.OK)
	}
	for _, c := range wrongs() {
		wantCheck(t, c.l, c.e)
	}
}

func TestD2Expand(t *testing.T) {
	wantExpand(t, nil, nil, api.OK)
	wantExpand(t, of(7, 2, 3, 1, 7, 1), []uint64{7, 7, 3, 7}, api.OK)
	wantExpand(t, of(-1, 64), repeated(1<<64-1, 64), api.OK)
	wantExpand(t, of(1, 40, 2, 24), append(repeated(1, 40), repeated(2, 24)...), api.OK)
	for many := range api.MaxList + 1 {
		r, _ := runs.Of(sample(many))
		wantExpand(t, r, sample(many), api.OK)
	}
}

func TestD2At(t *testing.T) {
	for many := range api.MaxList + 1 {
		l := sample(many)
		r, _ := runs.Of(l)
		for at, n := range l {
			wantAt(t, r, at, n, api.OK)
		}
		for _, at := range []int{math.MinInt, -1, many, many + 1, math.MaxInt} {
			wantAt(t, r, at, 0, api.ErrRange)
		}
	}
}

func TestD2CheckFirst(t *testing.T) {
	for _, c := range wrongs() {
		wantExpand(t, c.l, nil, c.e)
		for _, at := range []int{math.MinInt, -1, 0, 1, 63, 64, 65, math.MaxInt} {
			wantAt(t, c.l, at, 0, c.e)
		}
		for _, r := range [][]api.Run{nil, of(1, 1), of(5, 64)} {
			wantJoined(t, c.l, r, nil, c.e)
			wantJoined(t, r, c.l, nil, c.e)
		}
		for _, d := range wrongs() {
			wantJoined(t, c.l, d.l, nil, c.e)
		}
	}
}

func TestD2Joined(t *testing.T) {
	wantJoined(t, nil, nil, nil, api.OK)
	wantJoined(t, of(1, 2), nil, of(1, 2), api.OK)
	wantJoined(t, nil, of(1, 2), of(1, 2), api.OK)
	wantJoined(t, of(1, 2), of(2, 1), of(1, 2, 2, 1), api.OK)
	wantJoined(t, of(1, 2), of(1, 3), of(1, 5), api.OK)
	wantJoined(t, of(0, 2), of(0, 3), of(0, 5), api.OK)
	wantJoined(t, of(3, 1, 1, 2), of(1, 3, 4, 1), of(3, 1, 1, 5, 4, 1), api.OK)
	wantJoined(t, of(1, 1, 2, 1), of(1, 1, 2, 1), of(1, 1, 2, 1, 1, 1, 2, 1), api.OK)
	wantJoined(t, of(1, 63), of(1, 1), of(1, 64), api.OK)
	wantJoined(t, of(1, 40), of(2, 24), of(1, 40, 2, 24), api.OK)
	for _, a := range every(4, 2) {
		for _, b := range every(4, 2) {
			ra, _ := runs.Of(a)
			rb, _ := runs.Of(b)
			both, _ := runs.Of(slices.Concat(a, b))
			wantJoined(t, ra, rb, both, api.OK)
		}
	}
}

func TestD2JoinedTooMany(t *testing.T) {
	wantJoined(t, of(1, 64), of(1, 1), nil, api.ErrMany)
	wantJoined(t, of(1, 1), of(2, 64), nil, api.ErrMany)
	wantJoined(t, of(1, 40), of(2, 25), nil, api.ErrMany)
	wantJoined(t, of(1, 64), of(2, 64), nil, api.ErrMany)
}

// fewest: the least number of runs by which a list may be told, found by all ways
// of cutting it between two numbers.
func fewest(l []uint64) int {
	if len(l) == 0 {
		return 0
	}
	least := len(l)
	for cuts := range 1 << (len(l) - 1) {
		many, fits := 1, true
		for i := range len(l) - 1 {
			if cuts>>i&1 == 1 {
				many++
			} else if l[i] != l[i+1] {
				fits = false
			}
		}
		if fits {
			least = min(least, many)
		}
	}
	return least
}

func TestD3NoFewer(t *testing.T) {
	for many := range 8 {
		for _, l := range every(many, 2) {
			if r, _ := runs.Of(l); len(r) != fewest(l) {
				t.Errorf("Of(%d) = %v, %d runs would do", l, r, fewest(l))
			}
		}
	}
}

// However runs were come by: those that Check lets pass are the runs of their list.
func TestD3OneWay(t *testing.T) {
	var grown func(r []api.Run, more int)
	grown = func(r []api.Run, more int) {
		if runs.Check(r) == api.OK {
			wantOf(t, told(r), r, api.OK)
			l, _ := runs.Expand(r)
			wantOf(t, l, r, api.OK)
		}
		if more == 0 {
			return
		}
		for _, n := range []uint64{0, 1} {
			for _, many := range []int{0, 1, 2, 31} {
				grown(append(slices.Clone(r), api.Run{N: n, Many: many}), more-1)
			}
		}
	}
	grown(nil, 4)
}

// Whatever numbers stand in runs: with an error there is nothing else.
func TestP1StrangeRuns(t *testing.T) {
	strange := []int{math.MinInt, -65, -1, 0, 1, 32, 63, 64, 65, 1 << 62, math.MaxInt}
	for _, a := range strange {
		for _, b := range strange {
			for _, n := range []int{0, 1, -1} {
				r := of(0, a, n, b)
				e := runs.Check(r)
				if l, f := runs.Expand(r); f != e || e != api.OK && len(l) != 0 {
					t.Errorf("Expand(%v) = %d %d, Check has %d", r, l, f, e)
				}
				if j, f := runs.Joined(r, r); f != api.OK && len(j) != 0 {
					t.Errorf("Joined(%v, the same) = %v %d", r, j, f)
				}
				for _, at := range strange {
					if n, f := runs.At(r, at); f != api.OK && n != 0 || e != api.OK && f != e {
						t.Errorf("At(%v, %d) = %d %d, Check has %d", r, at, n, f, e)
					}
				}
			}
		}
	}
}

func TestP2OnlyRead(t *testing.T) {
	l, a, b := sample(40), of(1, 2, 2, 3, 3, 4), of(2, 5, 6, 7, 8, 9)
	wasL, wasA, wasB := slices.Clone(l), slices.Clone(a), slices.Clone(b)
	r, _ := runs.Of(l[:20])
	runs.Check(a[:2])
	x, _ := runs.Expand(a[:2])
	runs.At(a[:2], 3)
	j, _ := runs.Joined(a[:2], b[:2])
	if !slices.Equal(l, wasL) || !slices.Equal(a, wasA) || !slices.Equal(b, wasB) {
		t.Error("a list, or the room behind it, was changed")
	}
	clear(l)
	clear(a)
	clear(b)
	wantOf(t, wasL[:20], r, api.OK)
	wantExpand(t, wasA[:2], x, api.OK)
	wantJoined(t, wasA[:2], wasB[:2], j, api.OK)
}

// One list may be empty: what comes out is nonetheless not the other one.
func TestP2NewMemory(t *testing.T) {
	a, b := of(1, 2, 2, 3), of(2, 1, 4, 4)
	for _, call := range []func() ([]api.Run, api.Errno){
		func() ([]api.Run, api.Errno) { return runs.Joined(a, nil) },
		func() ([]api.Run, api.Errno) { return runs.Joined(nil, b) },
		func() ([]api.Run, api.Errno) { return runs.Joined(a, b) },
		func() ([]api.Run, api.Errno) { return runs.Joined(a, a) },
		func() ([]api.Run, api.Errno) { return runs.Of([]uint64{5, 5, 6}) },
	} {
		first, _ := call()
		was := slices.Clone(first)
		second, _ := call()
		clear(first[:cap(first)])
		if !slices.Equal(a, of(1, 2, 2, 3)) || !slices.Equal(b, of(2, 1, 4, 4)) {
			t.Error("an answer shares memory with what was handed in")
		}
		if again, _ := call(); !slices.Equal(second, was) || !slices.Equal(again, was) {
			t.Error("two answers share memory")
		}
	}
	x, _ := runs.Expand(a)
	y, _ := runs.Expand(a)
	clear(x[:cap(x)])
	if !slices.Equal(y, told(a)) {
		t.Error("two answers of Expand share memory")
	}
}

func TestP3SameAgain(t *testing.T) {
	l := sample(32)
	r, _ := runs.Of(l)
	both, _ := runs.Of(slices.Concat(l, l))
	var all sync.WaitGroup
	for range 8 {
		all.Go(func() {
			for at, n := range l {
				runs.Check(of(1, 1, 1, 1))
				runs.Joined(of(1, 64), r)
				wantAt(t, r, at, n, api.OK)
				wantOf(t, l, r, api.OK)
				wantExpand(t, r, l, api.OK)
				wantJoined(t, r, r, both, api.OK)
			}
		})
	}
	all.Wait()
}

func TestP4LongLists(t *testing.T) {
	l := make([]uint64, 1<<22)
	if r, e := runs.Of(l); len(r) != 0 || e != api.ErrMany {
		t.Errorf("Of of a long list has error %d", e)
	}
	long := make([]api.Run, 1<<22)
	for i := range long {
		long[i] = api.Run{N: uint64(i), Many: 1}
	}
	if e := runs.Check(long); e != api.ErrMany {
		t.Errorf("Check of many runs = %d", e)
	}
	if l, e := runs.Expand(long); len(l) != 0 || e != api.ErrMany {
		t.Errorf("Expand of many runs has error %d", e)
	}
	if n, e := runs.At(long, 1); n != 0 || e != api.ErrMany {
		t.Errorf("At of many runs = %d %d", n, e)
	}
	for i := range long {
		long[i].Many = math.MaxInt
	}
	if r, e := runs.Joined(long, long); len(r) != 0 || e != api.ErrRange {
		t.Errorf("Joined of long runs has error %d", e)
	}
}
