package rank_test

import (
	"math"
	"slices"
	"strings"
	"sync"
	"testing"

	"hypostyle/api"
	"hypostyle/bits"
	"hypostyle/rank"
)

// marks: of signs 0 and 1.
func marks(s string) []bool {
	l := make([]bool, len(s))
	for i := range l {
		l[i] = s[i] == '1'
	}
	return l
}

// every: all lists of so many marks.
func every(many int) [][]bool {
	all := make([][]bool, 1<<many)
	for i := range all {
		all[i] = make([]bool, many)
		for b := range many {
			all[i][b] = i>>b&1 == 1
		}
	}
	return all
}

// sample: so many marks, of both kinds, in no simple order.
func sample(many int) []bool {
	l := make([]bool, many)
	for i := range l {
		l[i] = uint64(i+many)*0x9e3779b97f4a7c15>>63 == 1
	}
	return l
}

// places: where the true ones are.
func places(l []bool) []int {
	var at []int
	for i := range l {
		if l[i] {
			at = append(at, i)
		}
	}
	return at
}

func wantRank(t *testing.T, l []bool, at, n int, e api.Errno) {
	t.Helper()
	if gn, ge := rank.Rank(l, at); gn != n || ge != e {
		t.Errorf("Rank(%v, %d) = %d %d, must be %d %d", l, at, gn, ge, n, e)
	}
}

func wantSelect(t *testing.T, l []bool, k, at int, e api.Errno) {
	t.Helper()
	if ga, ge := rank.Select(l, k); ga != at || ge != e {
		t.Errorf("Select(%v, %d) = %d %d, must be %d %d", l, k, ga, ge, at, e)
	}
}

func wantMarks(t *testing.T, what string, got []bool, ge api.Errno, l []bool, e api.Errno) {
	t.Helper()
	if !slices.Equal(got, l) || ge != e {
		t.Errorf("%s = %v %d, must be %v %d", what, got, ge, l, e)
	}
}

func wantAnd(t *testing.T, a, b, l []bool, e api.Errno) {
	t.Helper()
	got, ge := rank.And(a, b)
	wantMarks(t, "And", got, ge, l, e)
}

func wantOr(t *testing.T, a, b, l []bool, e api.Errno) {
	t.Helper()
	got, ge := rank.Or(a, b)
	wantMarks(t, "Or", got, ge, l, e)
}

func wantNot(t *testing.T, a, l []bool, e api.Errno) {
	t.Helper()
	got, ge := rank.Not(a)
	wantMarks(t, "Not", got, ge, l, e)
}

func wantOf(t *testing.T, s string, many int, l []bool, e api.Errno) {
	t.Helper()
	got, ge := rank.Of(s, many)
	wantMarks(t, "Of", got, ge, l, e)
}

func wantBytes(t *testing.T, l []bool, s string, e api.Errno) {
	t.Helper()
	if gs, ge := rank.Bytes(l); gs != s || ge != e {
		t.Errorf("Bytes(%v) = %x %d, must be %x %d", l, gs, ge, s, e)
	}
}

func TestC1Count(t *testing.T) {
	for _, c := range []struct {
		s string
		n int
	}{
		{"", 0}, {"0", 0}, {"1", 1}, {"1011", 3}, {"0100", 1}, {strings.Repeat("1", 300), 300}, {strings.Repeat("0", 300), 0},
	} {
		if got := rank.Count(marks(c.s)); got != c.n {
			t.Errorf("Count(%s) = %d, must be %d", c.s, got, c.n)
		}
	}
	if got := rank.Count(nil); got != 0 {
		t.Errorf("Count(nil) = %d", got)
	}
	for many := range 11 {
		for _, l := range every(many) {
			if got := rank.Count(l); got != len(places(l)) {
				t.Errorf("Count(%v) = %d", l, got)
			}
		}
	}
}

func TestC1Rank(t *testing.T) {
	l := marks("1011")
	for at, n := range []int{0, 1, 1, 2, 3} {
		wantRank(t, l, at, n, api.OK)
	}
	wantRank(t, nil, 0, 0, api.OK)
	for _, many := range []int{0, 1, 2, 7, 8, 9, api.MaxList, api.MaxList + 1, 500} {
		l, n := sample(many), 0
		for at := range l {
			wantRank(t, l, at, n, api.OK)
			if l[at] {
				n++
			}
		}
		wantRank(t, l, many, n, api.OK)
	}
}

func TestC1RankErrors(t *testing.T) {
	for _, many := range []int{0, 1, 9, api.MaxList, api.MaxList + 1} {
		for _, at := range []int{math.MinInt, -1, many + 1, math.MaxInt} {
			wantRank(t, sample(many), at, 0, api.ErrRange)
		}
	}
	// Spare room behind a list is none of it.
	wantRank(t, make([]bool, 3, 9), 4, 0, api.ErrRange)
}

func TestC1Select(t *testing.T) {
	l := marks("1011")
	for k, at := range []int{0, 2, 3} {
		wantSelect(t, l, k, at, api.OK)
	}
	for _, many := range []int{1, 2, 7, 8, 9, api.MaxList, api.MaxList + 1, 500} {
		l := sample(many)
		for k, at := range places(l) {
			wantSelect(t, l, k, at, api.OK)
		}
	}
}

func TestC1SelectErrors(t *testing.T) {
	for _, many := range []int{0, 1, 9, api.MaxList, api.MaxList + 1} {
		l := sample(many)
		n := len(places(l))
		wantSelect(t, l, math.MinInt, 0, api.ErrRange)
		wantSelect(t, l, -1, 0, api.ErrRange)
		wantSelect(t, l, n, 0, api.ErrNone)
		wantSelect(t, l, n+1, 0, api.ErrNone)
		wantSelect(t, l, math.MaxInt, 0, api.ErrNone)
		wantSelect(t, make([]bool, many), 0, 0, api.ErrNone)
	}
	wantSelect(t, nil, 0, 0, api.ErrNone)
}

func TestC2AndOrNot(t *testing.T) {
	wantAnd(t, marks("0011"), marks("0101"), marks("0001"), api.OK)
	wantOr(t, marks("0011"), marks("0101"), marks("0111"), api.OK)
	wantNot(t, marks("01"), marks("10"), api.OK)
	wantAnd(t, nil, []bool{}, nil, api.OK)
	wantOr(t, []bool{}, nil, nil, api.OK)
	wantNot(t, nil, nil, api.OK)
	for many := range 6 {
		for _, a := range every(many) {
			not := make([]bool, many)
			for i := range a {
				not[i] = !a[i]
			}
			wantNot(t, a, not, api.OK)
			for _, b := range every(many) {
				and, or := make([]bool, many), make([]bool, many)
				for i := range a {
					and[i], or[i] = a[i] && b[i], a[i] || b[i]
				}
				wantAnd(t, a, b, and, api.OK)
				wantOr(t, a, b, or, api.OK)
			}
		}
	}
}

func TestC2MostMarks(t *testing.T) {
	l, none := sample(api.MaxList), make([]bool, api.MaxList)
	not, _ := rank.Not(l)
	all, _ := rank.Not(none)
	if rank.Count(all) != api.MaxList {
		t.Errorf("Not of %d that are false has %d that are true", api.MaxList, rank.Count(all))
	}
	wantNot(t, not, l, api.OK)
	wantAnd(t, l, l, l, api.OK)
	wantAnd(t, l, not, none, api.OK)
	wantAnd(t, all, l, l, api.OK)
	wantOr(t, l, not, all, api.OK)
	wantOr(t, none, l, l, api.OK)
}

func TestC2AndOrNotErrors(t *testing.T) {
	most, over := sample(api.MaxList), sample(api.MaxList+1)
	for _, c := range []struct {
		a, b []bool
		e    api.Errno
	}{
		{nil, marks("0"), api.ErrForm}, {marks("1"), nil, api.ErrForm}, {marks("101"), marks("10"), api.ErrForm},
		{marks("10"), marks("101"), api.ErrForm}, {most, most[1:], api.ErrForm}, {most[1:], most, api.ErrForm},
		{over, over, api.ErrMany}, {over, most, api.ErrMany}, {most, over, api.ErrMany},
		{nil, over, api.ErrMany}, {over, nil, api.ErrMany}, {over, sample(1000), api.ErrMany},
	} {
		wantAnd(t, c.a, c.b, nil, c.e)
		wantOr(t, c.a, c.b, nil, c.e)
	}
	wantNot(t, over, nil, api.ErrMany)
	wantNot(t, sample(1000), nil, api.ErrMany)
}

func TestC2Bytes(t *testing.T) {
	for _, c := range []struct{ l, s string }{
		{"", ""}, {"0", "\x00"}, {"1", "\x01"}, {"1011", "\x0d"}, {"00000001", "\x80"}, {"000000001", "\x00\x01"},
		{"10000000100000001", "\x01\x01\x01"}, {strings.Repeat("01", 32), "\xaa\xaa\xaa\xaa\xaa\xaa\xaa\xaa"},
	} {
		wantBytes(t, marks(c.l), c.s, api.OK)
		wantOf(t, c.s, len(c.l), marks(c.l), api.OK)
	}
	for many := range api.MaxList + 1 {
		l := sample(many)
		numbers := make([]uint64, many)
		for _, at := range places(l) {
			numbers[at] = 1
		}
		s, _ := bits.Pack(numbers, 1)
		wantBytes(t, l, s, api.OK)
		wantOf(t, s, many, l, api.OK)
	}
	wantBytes(t, sample(api.MaxList+1), "", api.ErrMany)
	wantBytes(t, sample(1000), "", api.ErrMany)
}

func TestC2OfErrors(t *testing.T) {
	for _, c := range []struct {
		s    string
		many int
		e    api.Errno
	}{
		{"", -1, api.ErrRange}, {"\xff\xff", math.MinInt, api.ErrRange},
		{"", api.MaxList + 1, api.ErrMany}, {strings.Repeat("\x00", 9), api.MaxList + 1, api.ErrMany}, {"", math.MaxInt, api.ErrMany},
		{"", 1, api.ErrForm}, {"\x00", 0, api.ErrForm}, {"\x00", 9, api.ErrForm}, {"\x00\x00", 8, api.ErrForm},
		{"\x02", 1, api.ErrForm}, {"\x80", 7, api.ErrForm}, {"\xff\x02", 9, api.ErrForm},
		{strings.Repeat("\x00", 9), api.MaxList, api.ErrForm}, {strings.Repeat("\x00", 7), api.MaxList, api.ErrForm},
	} {
		wantOf(t, c.s, c.many, nil, c.e)
	}
}

func TestC3BackAndForth(t *testing.T) {
	lists := [][]bool{sample(api.MaxList), sample(api.MaxList + 1), sample(400)}
	for many := range 9 {
		lists = append(lists, every(many)...)
	}
	for _, l := range lists {
		for k := range rank.Count(l) {
			at, e := rank.Select(l, k)
			if e != api.OK || !l[at] {
				t.Errorf("Select(%v, %d) = %d %d", l, k, at, e)
			}
			wantRank(t, l, at, k, api.OK)
		}
		for at, mark := range l {
			if k, e := rank.Rank(l, at); mark {
				wantSelect(t, l, k, at, e)
			}
		}
	}
}

// What is read of a strange text is written as just that text; all else is nothing but an error.
func TestP1StrangeTexts(t *testing.T) {
	for _, s := range []string{"", "\x00", "\x01", "\xff", "\x8d\x01", "\xff\x00\xff", strings.Repeat("\xa5", 8), strings.Repeat("\xff", 9), strings.Repeat("\x00", 5000)} {
		for _, many := range []int{math.MinInt, -1, 0, 1, 2, 7, 8, 9, 63, 64, 65, 1 << 32, math.MaxInt} {
			l, e := rank.Of(s, many)
			if e != api.OK && len(l) != 0 {
				t.Errorf("Of(%x, %d) = %v with error %d", s, many, l, e)
			}
			if e == api.OK {
				wantBytes(t, l, s, api.OK)
			}
		}
	}
}

func TestP2OnlyRead(t *testing.T) {
	a, b := sample(30), sample(40)
	wasA, wasB := slices.Clone(a), slices.Clone(b)
	rank.Count(a[:9])
	rank.Rank(a[:9], 9)
	rank.Select(a[:9], 1)
	and, _ := rank.And(a[:9], b[:9])
	or, _ := rank.Or(a[:9], b[:9])
	not, _ := rank.Not(a[:9])
	s, _ := rank.Bytes(a[:9])
	if !slices.Equal(a, wasA) || !slices.Equal(b, wasB) {
		t.Error("a list, or the room behind it, was changed")
	}
	clear(a)
	clear(b)
	wantAnd(t, wasA[:9], wasB[:9], and, api.OK)
	wantOr(t, wasA[:9], wasB[:9], or, api.OK)
	wantNot(t, wasA[:9], not, api.OK)
	wantBytes(t, wasA[:9], s, api.OK)
}

// scribble changes all of an answer, the room behind it too.
func scribble(l []bool) {
	l = l[:cap(l)]
	for i := range l {
		l[i] = !l[i]
	}
}

func TestP2NewMemory(t *testing.T) {
	l := marks("1011")
	for _, call := range []func() ([]bool, api.Errno){
		func() ([]bool, api.Errno) { return rank.And(l, l) },
		func() ([]bool, api.Errno) { return rank.Or(l, l) },
		func() ([]bool, api.Errno) { return rank.Not(l) },
		func() ([]bool, api.Errno) { return rank.Of("\x0d", 4) },
	} {
		first, _ := call()
		was := slices.Clone(first)
		second, _ := call()
		scribble(first)
		if !slices.Equal(l, marks("1011")) {
			t.Error("an answer shares memory with what was handed in")
		}
		if !slices.Equal(second, was) {
			t.Error("two answers share memory")
		}
		again, e := call()
		wantMarks(t, "the call, once more,", again, e, was, api.OK)
	}
}

func TestP3SameAgain(t *testing.T) {
	l, none := sample(50), make([]bool, 50)
	at := places(l)
	s, _ := rank.Bytes(l)
	var all sync.WaitGroup
	for range 8 {
		all.Go(func() {
			for k := range at {
				wantSelect(t, l, k, at[k], api.OK)
				wantRank(t, l, at[k], k, api.OK)
				rank.Rank(l, -1)
				rank.And(l, l[1:])
				rank.Of(s, 70)
				wantAnd(t, l, none, none, api.OK)
				wantOr(t, none, l, l, api.OK)
				wantOf(t, s, 50, l, api.OK)
			}
		})
	}
	all.Wait()
}

func TestP4LongLists(t *testing.T) {
	l := make([]bool, 1<<26)
	l[1<<20], l[len(l)-1] = true, true
	if got := rank.Count(l); got != 2 {
		t.Errorf("Count of a long list = %d", got)
	}
	if n, e := rank.Rank(l, len(l)); n != 2 || e != api.OK {
		t.Errorf("Rank of a long list = %d %d", n, e)
	}
	if at, e := rank.Select(l, 1); at != len(l)-1 || e != api.OK {
		t.Errorf("Select of a long list = %d %d", at, e)
	}
	wantAnd(t, l, l, nil, api.ErrMany)
	wantOr(t, l, nil, nil, api.ErrMany)
	wantNot(t, l, nil, api.ErrMany)
	if n := testing.AllocsPerRun(1, func() { rank.Bytes(l) }); n != 0 {
		t.Errorf("Bytes of a long list takes memory %v times", n)
	}
	if s, e := rank.Bytes(l); s != "" || e != api.ErrMany {
		t.Errorf("Bytes of a long list has error %d", e)
	}
}
