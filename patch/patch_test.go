package patch_test

import (
	"math"
	"math/big"
	"slices"
	"strings"
	"sync"
	"testing"

	"hypostyle/api"
	"hypostyle/bits"
	"hypostyle/patch"
	"hypostyle/vary"
)

// of: a list of numbers.
func of(l ...uint64) []uint64 { return l }

// repeated: so many of a number.
func repeated(n uint64, many int) []uint64 { return slices.Repeat([]uint64{n}, many) }

// edges: numbers around powers of two, those at which a number has a byte more among them.
func edges() []uint64 {
	l := of(0, 123456789, 0xf1e2d3c4b5a69788, 1<<64-1)
	for _, i := range []int{1, 7, 8, 14, 28, 35, 49, 56, 63} {
		p := uint64(1) << i
		l = append(l, p-1, p, p+1, -p)
	}
	slices.Sort(l)
	return slices.Compact(l)
}

// sample: so many numbers from a base on, most of them of few bits more, some of many.
func sample(many, wide int) []uint64 {
	l := make([]uint64, many)
	base := uint64(many) << 20
	for i := range l {
		mixed := uint64(i*many+7) * 0x9e3779b97f4a7c15
		few := wide
		if mixed>>60 < 3 {
			few = int(mixed >> 50 & 63)
		}
		l[i] = base + mixed>>3&(1<<few-1)&(1<<62-1)
	}
	return l
}

// samples: lists of every length.
func samples() [][]uint64 {
	var out [][]uint64
	for many := range api.MaxList + 1 {
		for _, wide := range []int{0, 1, 3, 8, 20, 63} {
			out = append(out, sample(many, wide))
		}
	}
	return out
}

// whole: a number that does not run over.
func whole(n uint64) *big.Int { return new(big.Int).SetUint64(n) }

// base: the least number, as the document tells it.
func base(l []uint64) uint64 {
	var b uint64
	for i, n := range l {
		if i == 0 || n < b {
			b = n
		}
	}
	return b
}

// out: the places of those that stand out by a width.
func out(l []uint64, wide int) []int {
	var places []int
	for i, n := range l {
		if new(big.Int).Sub(whole(n), whole(base(l))).BitLen() > wide {
			places = append(places, i)
		}
	}
	return places
}

// bill: what a list costs by a width.
func bill(l []uint64, wide int) int {
	sum := len(l) * wide / 8
	if len(l)*wide%8 > 0 {
		sum++
	}
	for _, at := range out(l, wide) {
		sum += 1 + len(vary.Write(l[at]-base(l)))
	}
	return sum
}

// framed: the form of a list by a base and a width, whatever they cost.
func framed(t *testing.T, l []uint64, base uint64, wide int) string {
	t.Helper()
	more := make([]uint64, len(l))
	behind := ""
	many := 0
	for i, n := range l {
		more[i] = n - base
		if whole(more[i]).BitLen() > wide {
			behind += string([]byte{byte(i)}) + vary.Write(more[i])
			more[i] = 0
			many++
		}
	}
	s, e := bits.Pack(more, wide)
	if e != api.OK {
		t.Fatalf("Pack(%d, %d) has error %d", more, wide, e)
	}
	return vary.Write(base) + string([]byte{byte(wide), byte(many)}) + s + behind
}

// spelt: the form of a list as the document tells it.
func spelt(t *testing.T, l []uint64) string {
	t.Helper()
	wide := 0
	for w := api.MaxWide; w >= 0; w-- {
		if w == api.MaxWide || bill(l, w) <= bill(l, wide) {
			wide = w
		}
	}
	return framed(t, l, base(l), wide)
}

func wantCost(t *testing.T, l []uint64, wide, cost int, e api.Errno) {
	t.Helper()
	if got, ge := patch.Cost(l, wide); got != cost || ge != e {
		t.Errorf("Cost(%d, %d) = %d %d, must be %d %d", l, wide, got, ge, cost, e)
	}
}

func wantWrite(t *testing.T, l []uint64, s string, e api.Errno) {
	t.Helper()
	if gs, ge := patch.Write(l); gs != s || ge != e {
		t.Errorf("Write(%d) = %x %d, must be %x %d", l, gs, ge, s, e)
	}
}

func wantRead(t *testing.T, s string, many int, l []uint64, e api.Errno) {
	t.Helper()
	if gl, ge := patch.Read(s, many); !slices.Equal(gl, l) || ge != e {
		t.Errorf("Read(%x, %d) = %d %d, must be %d %d", s, many, gl, ge, l, e)
	}
}

func TestG1Cost(t *testing.T) {
	for _, c := range []struct {
		l          []uint64
		wide, cost int
	}{
		{nil, 0, 0},
		{nil, 64, 0},
		{of(9), 0, 0},
		{of(9), 1, 1},
		{of(9), 64, 8},
		{of(1<<64 - 1), 0, 0},
		{of(5, 5, 5), 0, 0},
		{of(5, 6, 5), 0, 2},
		{of(5, 6, 5), 1, 1},
		{of(5, 8, 5), 1, 3},
		{of(5, 8, 5), 2, 1},
		{of(5, 8, 5), 3, 2},
		// 127 has one byte, 128 has two.
		{of(0, 127), 6, 4},
		{of(0, 127), 7, 2},
		{of(0, 128), 7, 5},
		{of(0, 128), 8, 2},
		// What stands out is reckoned as what it is more than the base.
		{of(1000, 1127), 0, 2},
		{of(1000, 1128), 0, 3},
		{of(0, 1<<64-1), 0, 10},
		{of(0, 1<<64-1), 63, 26},
		{of(0, 1<<64-1), 64, 16},
		{of(1<<64-1, 0), 0, 10},
		{of(100, 101, 103, 100, 9999, 102), 2, 5},
		{repeated(7, 64), 1, 8},
		{repeated(7, 64), 64, 512},
		{append(repeated(7, 63), 8), 0, 2},
	} {
		wantCost(t, c.l, c.wide, c.cost, api.OK)
	}
}

func TestG1CostEveryWidth(t *testing.T) {
	for _, l := range samples() {
		for wide := range api.MaxWide + 1 {
			wantCost(t, l, wide, bill(l, wide), api.OK)
		}
	}
	for _, a := range edges() {
		for _, b := range edges() {
			for _, wide := range []int{0, 1, 31, 63, 64} {
				wantCost(t, of(a, b, a), wide, bill(of(a, b, a), wide), api.OK)
			}
		}
	}
}

func TestG1Errors(t *testing.T) {
	long := make([]uint64, api.MaxList+1)
	for _, wide := range []int{math.MinInt, -1, api.MaxWide + 1, math.MaxInt} {
		wantCost(t, nil, wide, 0, api.ErrRange)
		wantCost(t, of(1, 9), wide, 0, api.ErrRange)
		wantCost(t, long, wide, 0, api.ErrRange)
	}
	for _, wide := range []int{0, 1, 63, 64} {
		wantCost(t, long, wide, 0, api.ErrMany)
		wantCost(t, sample(5000, 9), wide, 0, api.ErrMany)
	}
}

func TestG2Write(t *testing.T) {
	for _, c := range []struct {
		l []uint64
		s string
	}{
		{nil, "\x00\x00\x00"},
		{of(), "\x00\x00\x00"},
		{of(0), "\x00\x00\x00"},
		{of(9), "\x09\x00\x00"},
		{of(300), "\x81\x2c\x00\x00"},
		{of(1<<64 - 1), "\xff\xff\xff\xff\xff\xff\xff\xff\xff\x00\x00"},
		{repeated(9, 64), "\x09\x00\x00"},
		{of(1, 2, 3, 4), "\x01\x02\x00\xe4"},
		{of(4, 3, 2, 1), "\x01\x02\x00\x1b"},
		{of(5, 6, 5), "\x05\x01\x00\x02"},
		// One of many stands out; so do two; the base is not the first one.
		{of(7, 7, 7, 7, 7, 7, 7, 70000), "\x07\x00\x01\x07\xc1\x11\x69"},
		{of(100, 101, 103, 100, 9999, 102), "\x64\x02\x01\x34\x08\x04\xa6\xab"},
		{of(0, 1<<64-1), "\x00\x00\x01\x01\xff\xff\xff\xff\xff\xff\xff\xff\xff"},
		{of(1<<64-1, 0), "\x00\x00\x01\x00\xff\xff\xff\xff\xff\xff\xff\xff\xff"},
		{append(repeated(7, 63), 8), "\x07\x00\x01\x3f\x01"},
		{append(of(8), append(repeated(7, 62), 9)...), "\x07\x00\x02\x00\x01\x3f\x02"},
		// By 0 and by 1 it is of two bytes: 0 is taken.
		{append(of(1), repeated(0, 8)...), "\x00\x00\x01\x00\x01"},
		{append(of(1), repeated(0, 7)...), "\x00\x01\x00\x01"},
	} {
		wantWrite(t, c.l, c.s, api.OK)
	}
}

func TestG2WriteEach(t *testing.T) {
	for _, l := range samples() {
		wantWrite(t, l, spelt(t, l), api.OK)
	}
	for _, a := range edges() {
		for _, b := range edges() {
			wantWrite(t, of(a, b, b, a), spelt(t, of(a, b, b, a)), api.OK)
			l := append(repeated(a, 60), b)
			wantWrite(t, l, spelt(t, l), api.OK)
		}
	}
}

// The width is that of the least Cost, and the least such one.
func TestG2WriteWidth(t *testing.T) {
	for _, l := range samples() {
		s, _ := patch.Write(l)
		head := len(vary.Write(base(l)))
		wide := int(s[head])
		cost, _ := patch.Cost(l, wide)
		if len(s) != head+2+cost {
			t.Errorf("Write(%d) has %d bytes, its Cost is %d", l, len(s), cost)
		}
		for w := range api.MaxWide + 1 {
			other, _ := patch.Cost(l, w)
			if other < cost || other == cost && w < wide {
				t.Errorf("Write(%d) takes width %d for %d, width %d is of %d", l, wide, cost, w, other)
			}
		}
	}
}

func TestG2Errors(t *testing.T) {
	for _, many := range []int{api.MaxList + 1, api.MaxList + 2, 5000} {
		wantWrite(t, make([]uint64, many), "", api.ErrMany)
		wantWrite(t, sample(many, 20), "", api.ErrMany)
	}
}

func TestG3Read(t *testing.T) {
	wantRead(t, "\x00\x00\x00", 0, nil, api.OK)
	wantRead(t, "\x05\x00\x00", 0, nil, api.OK)
	wantRead(t, "\x05\x40\x00", 0, nil, api.OK)
	wantRead(t, "\x05\x00\x00", 1, of(5), api.OK)
	wantRead(t, "\x05\x00\x00", 64, repeated(5, 64), api.OK)
	wantRead(t, "\x01\x02\x00\xe4", 4, of(1, 2, 3, 4), api.OK)
	wantRead(t, "\x05\x00\x01\x00\x01", 1, of(6), api.OK)
	wantRead(t, "\x05\x00\x01\x00\x01", 3, of(6, 5, 5), api.OK)
	wantRead(t, "\x05\x02\x02\x04\x00\x09\x02\x04", 3, of(14, 6, 9), api.OK)
	wantRead(t, "\x00\x00\x01\x3f\xff\xff\xff\xff\xff\xff\xff\xff\xff", 64, append(repeated(0, 63), 1<<64-1), api.OK)
	// A base that is not the least number, and a width that is not the best one.
	wantRead(t, "\x05\x00\x02\x00\x07\x01\x07", 2, of(12, 12), api.OK)
	wantRead(t, "\x05\x04\x00\x33", 2, of(8, 8), api.OK)
	wantRead(t, "\x05\x40\x00\x01\x02\x03\x04\x05\x06\x07\x08", 1, of(0x0807060504030206), api.OK)
}

// Every number may stand out at once.
func TestG3ReadAllOut(t *testing.T) {
	l := make([]uint64, api.MaxList)
	for i := range l {
		l[i] = uint64(i)*1000 + 1000
	}
	for wide := range 10 {
		s := framed(t, l, 0, wide)
		if many := int(s[2]); many != len(l) {
			t.Errorf("by %d bits %d of %d stand out", wide, many, len(l))
		}
		wantRead(t, s, len(l), l, api.OK)
	}
}

func TestG3ReadLimits(t *testing.T) {
	for _, s := range []string{"", "\x05", "\x05\x00\x00", "\x80\x02", "\x05\x41\x00", "\x05\x00\x00z"} {
		wantRead(t, s, math.MinInt, nil, api.ErrRange)
		wantRead(t, s, -1, nil, api.ErrRange)
		wantRead(t, s, api.MaxList+1, nil, api.ErrMany)
		wantRead(t, s, math.MaxInt, nil, api.ErrMany)
	}
}

// asked: so many numbers are asked of a text, and the answer is an error.
type asked struct {
	s    string
	many int
	e    api.Errno
}

// The error that is named first, of what stands ahead of those that stand out.
func TestG3ReadHead(t *testing.T) {
	for _, c := range []asked{
		// The base.
		{"", 0, api.ErrNone},
		{"", 1, api.ErrNone},
		{"\x80", 1, api.ErrNone},
		{"\xff\x00\x00\x00\x00\x00\x00\x00", 64, api.ErrNone},
		{"\x80\x02", 1, api.ErrForm},
		{"\x80\x02\x41\x00", 1, api.ErrForm},
		// The width, or how many stand out, is not there.
		{"\x05", 0, api.ErrNone},
		{"\x05", 1, api.ErrNone},
		{"\x05\x00", 0, api.ErrNone},
		{"\x05\x00", 1, api.ErrNone},
		{"\x05\x41", 1, api.ErrNone},
		{"\x05\xff", 1, api.ErrNone},
		{"\x81\x2c", 2, api.ErrNone},
		// The width is too great; that stands ahead of what is behind it.
		{"\x05\x41\x00", 0, api.ErrRange},
		{"\x05\x41\x00", 1, api.ErrRange},
		{"\x05\xff\x00", 64, api.ErrRange},
		{"\x05\x41\xff", 2, api.ErrRange},
		{"\x05\x41\x00z", 0, api.ErrRange},
		// What is Packed is not all there.
		{"\x05\x01\x00", 1, api.ErrNone},
		{"\x05\x01\x00\x00", 9, api.ErrNone},
		{"\x05\x40\x00\x01\x02\x03\x04\x05\x06\x07", 1, api.ErrNone},
		{"\x05\x01\x00\xff", 9, api.ErrNone},
		// A bit behind it.
		{"\x05\x01\x00\x02", 1, api.ErrForm},
		{"\x05\x01\x00\x80", 7, api.ErrForm},
		{"\x05\x03\x00\xff\x03", 3, api.ErrForm},
		{"\x05\x01\x01\x02", 1, api.ErrForm},
		{"\x05\x01\x01\x02\x09", 1, api.ErrForm},
		{"\xff\xff\xff\xff\xff\xff\xff\xff\xff\x01\x00\x03", 1, api.ErrForm},
	} {
		wantRead(t, c.s, c.many, nil, c.e)
	}
}

// The error that is named first, of those that stand out and of what is behind.
func TestG3ReadOut(t *testing.T) {
	for _, c := range []asked{
		// The place is not there.
		{"\x05\x00\x01", 1, api.ErrNone},
		{"\x05\x00\x01", 0, api.ErrNone},
		{"\x05\x00\x02\x00\x07", 2, api.ErrNone},
		{"\x05\x00\xff\x00\x07", 1, api.ErrNone},
		// It is no place.
		{"\x05\x00\x01\x00\x07", 0, api.ErrRange},
		{"\x05\x00\x01\x01\x07", 1, api.ErrRange},
		{"\x05\x00\x01\x01", 1, api.ErrRange},
		{"\x05\x00\x01\x40\x07", 64, api.ErrRange},
		{"\x05\x00\x01\xff\x07", 64, api.ErrRange},
		{"\x05\x00\x02\x01\x07\x02\x07", 2, api.ErrRange},
		{"\x05\x00\x02\x00\x07\x01\x07", 1, api.ErrRange},
		// It is not above the one before.
		{"\x05\x00\x02\x01\x07\x00\x07", 2, api.ErrState},
		{"\x05\x00\x02\x01\x07\x01\x07", 2, api.ErrState},
		{"\x05\x00\x02\x00\x07\x00", 1, api.ErrState},
		{"\x05\x00\x03\x00\x07\x02\x07\x01\x07", 3, api.ErrState},
		{"\x05\x02\x02\x01\x01\x09\x00\x09", 2, api.ErrState},
		// What is Packed there is not 0.
		{"\x05\x02\x01\x01\x00\x09", 1, api.ErrForm},
		{"\x05\x02\x01\x04\x01\x09", 2, api.ErrForm},
		{"\x05\x02\x01\x01\x00", 1, api.ErrForm},
		{"\x05\x02\x01\x01\x00\x80", 1, api.ErrForm},
		// The number is not of its form.
		{"\x05\x00\x01\x00", 1, api.ErrNone},
		{"\x05\x00\x01\x00\x80", 1, api.ErrNone},
		{"\x05\x00\x01\x00\x80\x02", 1, api.ErrForm},
		{"\x05\x00\x02\x00\x07\x01\x80", 2, api.ErrNone},
		// It fits into the width.
		{"\x05\x00\x01\x00\x00", 1, api.ErrForm},
		{"\x05\x02\x01\x00\x00\x03", 1, api.ErrForm},
		{"\x05\x07\x01\x00\x00\x7f", 1, api.ErrForm},
		{"\x05\x02\x01\x00\x00\x00", 1, api.ErrForm},
		{"\x05\x40\x01\x00\x00\x00\x00\x00\x00\x00\x00\x00\xff\xff\xff\xff\xff\xff\xff\xff\xff", 1, api.ErrForm},
		// The first of which something is wrong tells.
		{"\x05\x00\x02\x00\x00\x05\x07", 2, api.ErrForm},
		{"\x05\x00\x02\x05\x07\x00\x00", 2, api.ErrRange},
		// Something is left.
		{"\x05\x00\x00z", 0, api.ErrForm},
		{"\x05\x00\x00z", 3, api.ErrForm},
		{"\x05\x00\x01\x00\x07\x01\x07", 2, api.ErrForm},
		{"\x05\x01\x00\x01\x00", 1, api.ErrForm},
	} {
		wantRead(t, c.s, c.many, nil, c.e)
	}
}

func TestG3ReadOver(t *testing.T) {
	top := strings.Repeat("\xff", 9)
	for _, c := range []asked{
		{top + "\x01\x00\x01", 1, api.ErrOver},
		{top + "\x01\x00\x01", 5, api.ErrOver},
		{top + "\x01\x00\x10", 5, api.ErrOver},
		{top + "\x00\x01\x02\x01", 3, api.ErrOver},
		{"\x01\x00\x01\x00" + top, 1, api.ErrOver},
		{"\x02\x40\x00\xfe" + top[:7], 1, api.ErrOver},
		// All else is named ahead of it.
		{top + "\x01\x00\x01z", 1, api.ErrForm},
		{top + "\x00\x02\x00\x01", 3, api.ErrNone},
		{top + "\x00\x02\x00\x01\x00\x01", 3, api.ErrState},
		{top + "\x00\x02\x00\x01\x03\x01", 3, api.ErrRange},
	} {
		wantRead(t, c.s, c.many, nil, c.e)
	}
	// Just up to 2^64 - 1.
	wantRead(t, top+"\x00\x00", 3, repeated(1<<64-1, 3), api.OK)
	wantRead(t, top+"\x01\x00\x00", 3, repeated(1<<64-1, 3), api.OK)
	wantRead(t, "\x00\x00\x01\x00"+top, 1, of(1<<64-1), api.OK)
	wantRead(t, "\x01\x40\x00\xfe"+top[:7], 1, of(1<<64-1), api.OK)
}

// By each width, and by bases from the least number down, it is read as it was.
func TestG3ReadEveryWidth(t *testing.T) {
	for many := range api.MaxList + 1 {
		l := sample(many, 9)
		least := base(l)
		for wide := range api.MaxWide + 1 {
			for _, from := range of(0, least/2, least-min(least, 1), least) {
				wantRead(t, framed(t, l, from, wide), many, l, api.OK)
			}
		}
	}
}

func TestG3ReadCutShort(t *testing.T) {
	for _, l := range samples() {
		s, _ := patch.Write(l)
		for c := range len(s) {
			wantRead(t, s[:c], len(l), nil, api.ErrNone)
		}
		wantRead(t, s+"\x00", len(l), nil, api.ErrForm)
		wantRead(t, s+s, len(l), nil, api.ErrForm)
	}
}

func TestG3ReadAsItWas(t *testing.T) {
	for _, l := range samples() {
		s, _ := patch.Write(l)
		wantRead(t, s, len(l), l, api.OK)
	}
	for _, a := range edges() {
		for _, b := range edges() {
			for _, l := range [][]uint64{of(a, b), of(a, b, a, a, b), append(repeated(a, 50), b)} {
				s, _ := patch.Write(l)
				wantRead(t, s, len(l), l, api.OK)
			}
		}
	}
}

// What is read of a strange text is written so that it is read again; all else is
// nothing but an error.
func TestP1StrangeTexts(t *testing.T) {
	strange := []int{math.MinInt, -65, -1, 0, 1, 2, 3, 8, 9, 63, 64, 65, 1 << 32, 1 << 58, 1 << 62, math.MaxInt}
	texts := []string{
		"", "\x00", strings.Repeat("\xff", 600), strings.Repeat("\x00", 5000),
		"\x00\x40\xff" + strings.Repeat("\xff", 600), "\x00\x00\xff" + strings.Repeat("\x3f\x01", 300),
	}
	for i := range 1 << 16 {
		texts = append(texts, string([]byte{byte(i % 3), byte(i % 5), byte(i >> 14), byte(i >> 9 & 3), byte(i >> 4), byte(i)}))
	}
	for _, s := range texts {
		for _, many := range strange {
			l, e := patch.Read(s, many)
			if e != api.OK {
				if len(l) != 0 {
					t.Errorf("Read(%x, %d) = %d with error %d", s, many, l, e)
				}
				continue
			}
			if len(l) != many {
				t.Errorf("Read(%x, %d) = %d", s, many, l)
			}
			again, f := patch.Write(l)
			if f != api.OK {
				t.Errorf("Write(%d) has error %d", l, f)
			}
			wantRead(t, again, many, l, api.OK)
		}
	}
}

func TestP2OnlyRead(t *testing.T) {
	l := sample(40, 4)
	was := slices.Clone(l)
	s, _ := patch.Write(l[:20])
	patch.Cost(l[:20], 2)
	if !slices.Equal(l, was) {
		t.Error("a list, or the room behind it, was changed")
	}
	clear(l)
	wantRead(t, s, 20, was[:20], api.OK)
}

func TestP2NewMemory(t *testing.T) {
	for _, many := range []int{1, 20, 64} {
		l := sample(many, 4)
		s, _ := patch.Write(l)
		first, _ := patch.Read(s, many)
		second, _ := patch.Read(s, many)
		clear(first[:cap(first)])
		if !slices.Equal(second, l) {
			t.Error("two answers share memory")
		}
		wantRead(t, s, many, l, api.OK)
	}
}

func TestP3SameAgain(t *testing.T) {
	l := sample(60, 4)
	s := spelt(t, l)
	var all sync.WaitGroup
	for range 8 {
		all.Go(func() {
			for range 100 {
				patch.Read(s, 59)
				patch.Write(make([]uint64, api.MaxList+1))
				wantCost(t, l, 4, bill(l, 4), api.OK)
				wantWrite(t, l, s, api.OK)
				wantRead(t, s, 60, l, api.OK)
			}
		})
	}
	all.Wait()
}

func TestP4LongOnes(t *testing.T) {
	l := make([]uint64, 1<<22)
	if n, e := patch.Cost(l, 3); n != 0 || e != api.ErrMany {
		t.Errorf("Cost of a long list is %d with error %d", n, e)
	}
	if s, e := patch.Write(l); s != "" || e != api.ErrMany {
		t.Errorf("Write of a long list has error %d", e)
	}
	long := "\x05\x00\x02" + strings.Repeat("\x00\x01", 1<<22)
	wantLong := func(many int, e api.Errno) {
		t.Helper()
		if l, f := patch.Read(long, many); len(l) != 0 || f != e {
			t.Errorf("Read of %d of a long text has error %d, must be %d", many, f, e)
		}
	}
	wantLong(-1, api.ErrRange)
	wantLong(0, api.ErrRange)
	wantLong(1, api.ErrState)
	wantLong(65, api.ErrMany)
	if l, e := patch.Read("\x05\x00\x00"+long, 64); len(l) != 0 || e != api.ErrForm {
		t.Errorf("Read of a text with a long rest has error %d", e)
	}
}
