package delta_test

import (
	"math"
	"math/big"
	"slices"
	"strings"
	"sync"
	"testing"

	"hypostyle/api"
	"hypostyle/bits"
	"hypostyle/delta"
	"hypostyle/hybrid"
	"hypostyle/vary"
)

// of: a list of numbers.
func of(l ...uint64) []uint64 { return l }

// repeated: so many of a number.
func repeated(n uint64, many int) []uint64 { return slices.Repeat([]uint64{n}, many) }

// rising: so many numbers from one on, each one so much more than the one before.
func rising(from, by uint64, many int) []uint64 {
	l := make([]uint64, many)
	for i := range l {
		l[i] = from + uint64(i)*by
	}
	return l
}

// edges: numbers around each power of two.
func edges() []uint64 {
	l := of(0, 123456789, 0xf1e2d3c4b5a69788, 1<<64-1)
	for i := range 64 {
		p := uint64(1) << i
		l = append(l, p-1, p, p+1, -p, p|p>>1)
	}
	slices.Sort(l)
	return slices.Compact(l)
}

// sample: so many numbers, whose differences are of so many bits.
func sample(many, wide int) []uint64 {
	l := make([]uint64, many)
	n := uint64(many) << 40
	for i := range l {
		l[i] = n
		if i%13 < 5 { // rows of one difference, and rows of many
			n += uint64(i*many+1) * 0x9e3779b97f4a7c15 >> 5 & (1<<wide - 1)
		}
		n -= 1 << wide >> 1
	}
	return l
}

// modulo: a number modulo 2^64.
func modulo(x *big.Int) uint64 {
	return new(big.Int).Mod(x, new(big.Int).Lsh(big.NewInt(1), 64)).Uint64()
}

func number(n uint64) *big.Int { return new(big.Int).SetUint64(n) }

// diffs, sums, zig: as the document tells them, reckoned in numbers that do not run over.
func diffs(l []uint64) []uint64 {
	out := make([]uint64, len(l))
	before := new(big.Int)
	for i, n := range l {
		out[i] = modulo(new(big.Int).Sub(number(n), before))
		before = number(n)
	}
	return out
}

func sums(l []uint64) []uint64 {
	out := make([]uint64, len(l))
	sum := new(big.Int)
	for i, n := range l {
		sum.Add(sum, number(n))
		out[i] = modulo(sum)
	}
	return out
}

func zig(n uint64) uint64 {
	twice := new(big.Int).Lsh(number(n), 1)
	if number(n).BitLen() < 64 {
		return modulo(twice)
	}
	return modulo(twice.Neg(twice).Sub(twice, big.NewInt(1)))
}

// text: a first number, a width, and numbers by it.
func text(t *testing.T, first uint64, wide int, zigs []uint64) string {
	t.Helper()
	s, e := hybrid.Write(zigs, wide)
	if e != api.OK {
		t.Fatalf("Write(%d, %d) of hybrid has error %d", zigs, wide, e)
	}
	return vary.Write(first) + string([]byte{byte(wide)}) + s
}

// spelt: the form of a list as the document tells it.
func spelt(t *testing.T, l []uint64) string {
	t.Helper()
	if len(l) == 0 {
		return ""
	}
	var zigs []uint64
	for _, d := range diffs(l)[1:] {
		zigs = append(zigs, zig(d))
	}
	return text(t, l[0], bits.Width(zigs), zigs)
}

func wantList(t *testing.T, what string, from, got []uint64, ge api.Errno, l []uint64, e api.Errno) {
	t.Helper()
	if !slices.Equal(got, l) || ge != e {
		t.Errorf("%s(%d) = %d %d, must be %d %d", what, from, got, ge, l, e)
	}
}

func wantDiffs(t *testing.T, l, d []uint64, e api.Errno) {
	t.Helper()
	got, ge := delta.Diffs(l)
	wantList(t, "Diffs", l, got, ge, d, e)
}

func wantSums(t *testing.T, d, l []uint64, e api.Errno) {
	t.Helper()
	got, ge := delta.Sums(d)
	wantList(t, "Sums", d, got, ge, l, e)
}

func wantZig(t *testing.T, n, z uint64) {
	t.Helper()
	if got := delta.Zig(n); got != z {
		t.Errorf("Zig(%d) = %d, must be %d", n, got, z)
	}
	if got := delta.Zag(z); got != n {
		t.Errorf("Zag(%d) = %d, must be %d", z, got, n)
	}
}

func wantWrite(t *testing.T, l []uint64, s string, e api.Errno) {
	t.Helper()
	if gs, ge := delta.Write(l); gs != s || ge != e {
		t.Errorf("Write(%d) = %x %d, must be %x %d", l, gs, ge, s, e)
	}
}

func wantRead(t *testing.T, s string, many int, l []uint64, e api.Errno) {
	t.Helper()
	if gl, ge := delta.Read(s, many); !slices.Equal(gl, l) || ge != e {
		t.Errorf("Read(%x, %d) = %d %d, must be %d %d", s, many, gl, ge, l, e)
	}
}

func TestF1Diffs(t *testing.T) {
	wantDiffs(t, nil, nil, api.OK)
	wantDiffs(t, of(0), of(0), api.OK)
	wantDiffs(t, of(5), of(5), api.OK)
	wantDiffs(t, of(1<<64-1), of(1<<64-1), api.OK)
	wantDiffs(t, of(10, 20, 40, 40), of(10, 10, 20, 0), api.OK)
	wantDiffs(t, of(5, 3), of(5, 1<<64-2), api.OK)
	wantDiffs(t, of(1<<64-1, 0, 1<<63), of(1<<64-1, 1, 1<<63), api.OK)
	wantDiffs(t, of(0, 1<<64-1, 1<<64-1), of(0, 1<<64-1, 0), api.OK)
	for many := range api.MaxList + 1 {
		for _, wide := range []int{0, 3, 40, 63, 64} {
			wantDiffs(t, sample(many, wide), diffs(sample(many, wide)), api.OK)
		}
	}
}

func TestF1Sums(t *testing.T) {
	wantSums(t, nil, nil, api.OK)
	wantSums(t, of(0), of(0), api.OK)
	wantSums(t, of(5), of(5), api.OK)
	wantSums(t, of(1, 2, 3), of(1, 3, 6), api.OK)
	wantSums(t, of(1<<64-1, 1), of(1<<64-1, 0), api.OK)
	wantSums(t, of(1<<63, 1<<63, 7), of(1<<63, 0, 7), api.OK)
	wantSums(t, of(5, 1<<64-2), of(5, 3), api.OK)
	for many := range api.MaxList + 1 {
		for _, wide := range []int{0, 3, 40, 63, 64} {
			wantSums(t, sample(many, wide), sums(sample(many, wide)), api.OK)
		}
	}
}

func TestF1Errors(t *testing.T) {
	for _, many := range []int{api.MaxList + 1, api.MaxList + 2, 5000} {
		wantDiffs(t, make([]uint64, many), nil, api.ErrMany)
		wantSums(t, make([]uint64, many), nil, api.ErrMany)
		wantDiffs(t, rising(1<<60, 1<<61, many), nil, api.ErrMany)
		wantSums(t, rising(1<<60, 1<<61, many), nil, api.ErrMany)
	}
}

func TestF1Zig(t *testing.T) {
	wantZig(t, 0, 0)
	wantZig(t, 1<<64-1, 1)
	wantZig(t, 1, 2)
	wantZig(t, 1<<64-2, 3)
	wantZig(t, 2, 4)
	wantZig(t, 1<<63-1, 1<<64-2)
	wantZig(t, 1<<63, 1<<64-1)
	wantZig(t, 1<<63+1, 1<<64-3)
	for _, n := range edges() {
		wantZig(t, n, zig(n))
		if got := delta.Zig(delta.Zag(n)); got != n {
			t.Errorf("Zig(Zag(%d)) = %d", n, got)
		}
	}
}

// What is near 0, from above or below, is small.
func TestF1ZigSmall(t *testing.T) {
	for wide := range 64 {
		limit := uint64(1) << wide
		for _, near := range of(0, 1, limit/2, limit-1) {
			if near >= limit {
				continue
			}
			if z := delta.Zig(near); z > 2*limit-1 {
				t.Errorf("Zig(%d) = %d", near, z)
			}
			if z := delta.Zig(-near); z > 2*limit-1 {
				t.Errorf("Zig(-%d) = %d", near, z)
			}
		}
	}
}

func TestF2Write(t *testing.T) {
	wantWrite(t, nil, "", api.OK)
	wantWrite(t, of(), "", api.OK)
	wantWrite(t, of(0), "\x00\x00", api.OK)
	wantWrite(t, of(5), "\x05\x00", api.OK)
	wantWrite(t, of(1<<64-1), "\xff\xff\xff\xff\xff\xff\xff\xff\xff\x00", api.OK)
	wantWrite(t, of(1, 2, 3), "\x01\x02\x03\x0a\x00", api.OK)
	wantWrite(t, of(300, 300), "\x81\x2c\x00\x03", api.OK)
	wantWrite(t, of(1, 0), "\x01\x01\x03\x01", api.OK)
	wantWrite(t, of(5, 4, 5), "\x05\x02\x03\x09\x00", api.OK)
	wantWrite(t, of(1<<64-1, 0), "\xff\xff\xff\xff\xff\xff\xff\xff\xff\x02\x03\x02\x00", api.OK)
	wantWrite(t, of(0, 1<<63), "\x00\x40\x03"+strings.Repeat("\xff", 8)+strings.Repeat("\x00", 56), api.OK)
	wantWrite(t, rising(10, 10, 9), "\x0a\x05\x10\x14", api.OK)
	wantWrite(t, rising(10, 10, 10), "\x0a\x05\x12\x14", api.OK)
	wantWrite(t, rising(100, 1<<64-2, 11), "\x64\x02\x14\x03", api.OK)
	wantWrite(t, repeated(7, 64), "\x07\x00\x7e", api.OK)
	for wide := range 65 {
		for many := range api.MaxList + 1 {
			l := sample(many, wide)
			wantWrite(t, l, spelt(t, l), api.OK)
		}
	}
}

func TestF2WriteErrors(t *testing.T) {
	for _, many := range []int{api.MaxList + 1, api.MaxList + 2, 5000} {
		wantWrite(t, make([]uint64, many), "", api.ErrMany)
		wantWrite(t, sample(many, 20), "", api.ErrMany)
	}
}

func TestF2Read(t *testing.T) {
	wantRead(t, "", 0, nil, api.OK)
	wantRead(t, "\x05\x00", 1, of(5), api.OK)
	wantRead(t, "\x01\x02\x03\x0a\x00", 3, of(1, 2, 3), api.OK)
	wantRead(t, "\x01\x01\x03\x01", 2, of(1, 0), api.OK)
	wantRead(t, "\x00\x01\x02\x01", 2, of(0, 1<<64-1), api.OK)
	wantRead(t, "\x07\x00\x7e", 64, repeated(7, 64), api.OK)
	// Parts that Write would not make so are read nonetheless.
	wantRead(t, "\x05\x02\x02\x02\x02\x02", 3, of(5, 6, 7), api.OK)
	wantRead(t, "\x05\x02\x04\x02\x03\x03\x00", 4, of(5, 6, 7, 5), api.OK)
	wantRead(t, "\x05\x00\x02\x02\x03", 11, repeated(5, 11), api.OK)
}

func TestF2ReadLimits(t *testing.T) {
	for _, s := range []string{"", "\x05\x00", "\x80", "\x80\x02"} {
		wantRead(t, s, math.MinInt, nil, api.ErrRange)
		wantRead(t, s, -1, nil, api.ErrRange)
		wantRead(t, s, api.MaxList+1, nil, api.ErrMany)
		wantRead(t, s, math.MaxInt, nil, api.ErrMany)
	}
	for _, s := range []string{"\x00", "\x05\x00", "\x80", "\x80\x02", "\xff", "\x05\x41"} {
		wantRead(t, s, 0, nil, api.ErrForm)
	}
}

// The error that is named first.
func TestF2ReadErrors(t *testing.T) {
	for _, c := range []struct {
		s    string
		many int
		e    api.Errno
	}{
		// The first number.
		{"", 1, api.ErrNone},
		{"\x80", 1, api.ErrNone},
		{"\xff\x00\x00\x00\x00\x00\x00\x00", 64, api.ErrNone},
		{"\x80\x02", 1, api.ErrForm},
		{"\x80\x02\x41", 1, api.ErrForm},
		// The width is not there.
		{"\x05", 1, api.ErrNone},
		{"\x81\x2c", 2, api.ErrNone},
		// It is too great; that stands ahead of what is behind it.
		{"\x05\x41", 1, api.ErrRange},
		{"\x05\xff", 1, api.ErrRange},
		{"\x05\x41", 2, api.ErrRange},
		{"\x05\x41\x00", 2, api.ErrRange},
		// What is behind it is not of its form.
		{"\x05\x00\x00", 1, api.ErrForm},
		{"\x05\x00\x03", 1, api.ErrForm},
		{"\x05\x02", 2, api.ErrNone},
		{"\x05\x02\x02", 2, api.ErrNone},
		{"\x05\x02\x00", 2, api.ErrForm},
		{"\x05\x02\x80\x02", 2, api.ErrForm},
		{"\x05\x02\x04", 2, api.ErrMany},
		{"\x05\x02\x05", 9, api.ErrMany},
		{"\x05\x02\x02\x06", 2, api.ErrForm},
		{"\x05\x02\x03\x0a\x01", 3, api.ErrForm},
		{"\x05\x02\x03\x2a\x00", 3, api.ErrForm},
		{"\x05\x02\x02\x02\x00", 2, api.ErrForm},
		{"\x05\x02\x02\x02", 3, api.ErrNone},
		{"\x07\x00\x80\x80", 64, api.ErrMany},
		// A width that is too great for what is read.
		{"\x05\x01", 1, api.ErrForm},
		{"\x05\x40", 1, api.ErrForm},
		{"\x05\x03\x02\x02", 2, api.ErrForm},
		{"\x05\x01\x02\x00", 2, api.ErrForm},
		{"\x05\x08\x10\x7f", 9, api.ErrForm},
		// Both: what chapter 5 says comes first.
		{"\x05\x03\x04\x02", 2, api.ErrMany},
		{"\x05\x03\x02", 2, api.ErrNone},
	} {
		wantRead(t, c.s, c.many, nil, c.e)
	}
}

// Of all widths just the least is let pass.
func TestF2ReadOneWidth(t *testing.T) {
	for _, l := range [][]uint64{of(5), of(5, 5), of(5, 6), of(6, 5), of(0, 1<<31, 7), rising(9, 3, 20), sample(40, 30)} {
		var zigs []uint64
		for _, d := range diffs(l)[1:] {
			zigs = append(zigs, zig(d))
		}
		for wide := bits.Width(zigs); wide <= api.MaxWide; wide++ {
			if s := text(t, l[0], wide, zigs); wide == bits.Width(zigs) {
				wantRead(t, s, len(l), l, api.OK)
			} else {
				wantRead(t, s, len(l), nil, api.ErrForm)
			}
		}
	}
}

func TestF2ReadCutShort(t *testing.T) {
	for _, wide := range []int{0, 1, 20, 63} {
		for many := 1; many <= api.MaxList; many++ {
			s, _ := delta.Write(sample(many, wide))
			for c := range len(s) {
				wantRead(t, s[:c], many, nil, api.ErrNone)
			}
			wantRead(t, s+"\x00", many, nil, api.ErrForm)
			wantRead(t, s+"\x02", many, nil, api.ErrForm)
		}
	}
}

func TestF2ReadAsItWas(t *testing.T) {
	for wide := range 65 {
		for many := range api.MaxList + 1 {
			l := sample(many, wide)
			s, _ := delta.Write(l)
			wantRead(t, s, many, l, api.OK)
		}
	}
	for _, a := range edges() {
		for _, b := range edges() {
			s, _ := delta.Write(of(a, b, a))
			wantRead(t, s, 3, of(a, b, a), api.OK)
		}
	}
}

func TestF3BackAndForth(t *testing.T) {
	for wide := range 65 {
		for many := range api.MaxList + 1 {
			l := sample(many, wide)
			d, _ := delta.Diffs(l)
			wantSums(t, d, l, api.OK)
			s, _ := delta.Sums(l)
			wantDiffs(t, s, l, api.OK)
		}
	}
	for _, a := range edges() {
		for _, b := range edges() {
			d, _ := delta.Diffs(of(a, b))
			wantSums(t, d, of(a, b), api.OK)
			s, _ := delta.Sums(of(a, b))
			wantDiffs(t, s, of(a, b), api.OK)
		}
	}
}

// Of what rises evenly all differences behind the first one are alike: one run.
func TestF3RisingEvenly(t *testing.T) {
	for _, from := range edges() {
		for _, by := range edges() {
			l := rising(from, by, 20)
			wantDiffs(t, l, append(of(from), repeated(by, 19)...), api.OK)
			wide := bits.Width(of(zig(by)))
			one, _ := bits.Pack(of(zig(by)), wide)
			wantWrite(t, l, vary.Write(from)+string([]byte{byte(wide), 2 * 19})+one, api.OK)
		}
	}
}

// What is read of a strange text is written so that it is read again; all else is
// nothing but an error.
func TestP1StrangeTexts(t *testing.T) {
	strange := []int{math.MinInt, -65, -1, 0, 1, 2, 3, 8, 9, 10, 17, 63, 64, 65, 1 << 32, 1 << 62, math.MaxInt}
	texts := []string{
		"", "\x00", strings.Repeat("\xff", 600), strings.Repeat("\x00", 5000),
		"\x00\x40\xff\xff\xff\xff\xff\xff\xff\xff\xff", "\x00\x40\xff\x40\x00\x00\x00\x00\x00\x00\x01",
		"\xff\xff\xff\xff\xff\xff\xff\xff\xff\xff",
	}
	for i := range 1 << 16 {
		texts = append(texts, string([]byte{byte(i % 3), byte(i >> 12), byte(i >> 4 & 0xff), byte(i)}))
	}
	for _, s := range texts {
		for _, many := range strange {
			l, e := delta.Read(s, many)
			if e != api.OK {
				if len(l) != 0 {
					t.Errorf("Read(%x, %d) = %d with error %d", s, many, l, e)
				}
				continue
			}
			if len(l) != many {
				t.Errorf("Read(%x, %d) = %d", s, many, l)
			}
			again, f := delta.Write(l)
			if f != api.OK {
				t.Errorf("Write(%d) has error %d", l, f)
			}
			wantRead(t, again, many, l, api.OK)
		}
	}
}

func TestP2OnlyRead(t *testing.T) {
	l := sample(40, 9)
	was := slices.Clone(l)
	d, _ := delta.Diffs(l[:20])
	x, _ := delta.Sums(l[:20])
	s, _ := delta.Write(l[:20])
	if !slices.Equal(l, was) {
		t.Error("a list, or the room behind it, was changed")
	}
	clear(l)
	wantDiffs(t, was[:20], d, api.OK)
	wantSums(t, was[:20], x, api.OK)
	wantRead(t, s, 20, was[:20], api.OK)
}

func TestP2NewMemory(t *testing.T) {
	l := sample(20, 9)
	was := slices.Clone(l)
	s, _ := delta.Write(l)
	for _, call := range []func() ([]uint64, api.Errno){
		func() ([]uint64, api.Errno) { return delta.Diffs(l) },
		func() ([]uint64, api.Errno) { return delta.Sums(l) },
		func() ([]uint64, api.Errno) { return delta.Read(s, 20) },
		func() ([]uint64, api.Errno) { return delta.Diffs(l[:1]) },
		func() ([]uint64, api.Errno) { return delta.Sums(l[:1]) },
	} {
		first, _ := call()
		kept := slices.Clone(first)
		second, _ := call()
		clear(first[:cap(first)])
		if !slices.Equal(l, was) {
			t.Error("an answer shares memory with what was handed in")
		}
		if !slices.Equal(second, kept) {
			t.Error("two answers share memory")
		}
	}
}

func TestP3SameAgain(t *testing.T) {
	l := sample(60, 9)
	s := spelt(t, l)
	var all sync.WaitGroup
	for range 8 {
		all.Go(func() {
			for _, n := range edges() {
				delta.Read(s, 59)
				delta.Write(make([]uint64, api.MaxList+1))
				wantZig(t, n, zig(n))
				wantDiffs(t, l, diffs(l), api.OK)
				wantSums(t, l, sums(l), api.OK)
				wantWrite(t, l, s, api.OK)
				wantRead(t, s, 60, l, api.OK)
			}
		})
	}
	all.Wait()
}

func TestP4LongOnes(t *testing.T) {
	l := make([]uint64, 1<<22)
	for _, call := range []func([]uint64) ([]uint64, api.Errno){delta.Diffs, delta.Sums} {
		if d, e := call(l); len(d) != 0 || e != api.ErrMany {
			t.Errorf("of a long list come %d with error %d", len(d), e)
		}
	}
	if s, e := delta.Write(l); s != "" || e != api.ErrMany {
		t.Errorf("Write of a long list has error %d", e)
	}
	long := "\x05\x01" + strings.Repeat("\x02\x01", 1<<22)
	wantLong := func(many int, e api.Errno) {
		t.Helper()
		if l, f := delta.Read(long, many); len(l) != 0 || f != e {
			t.Errorf("Read of %d of a long text has error %d, must be %d", many, f, e)
		}
	}
	wantLong(-1, api.ErrRange)
	wantLong(0, api.ErrForm)
	wantLong(1, api.ErrForm)
	wantLong(64, api.ErrForm)
	wantLong(65, api.ErrMany)
}
