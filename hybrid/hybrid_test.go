package hybrid_test

import (
	"math"
	"slices"
	"strings"
	"sync"
	"testing"

	"hypostyle/api"
	"hypostyle/bits"
	"hypostyle/hybrid"
	"hypostyle/vary"
)

// of: a list of numbers.
func of(l ...uint64) []uint64 { return l }

// repeated: so many of a number.
func repeated(n uint64, many int) []uint64 { return slices.Repeat([]uint64{n}, many) }

// counted: so many numbers from one on, each one more than the one before.
func counted(from uint64, many int) []uint64 {
	l := make([]uint64, many)
	for i := range l {
		l[i] = from + uint64(i)
	}
	return l
}

// most: the greatest number of so many bits.
func most(wide int) uint64 { return 1<<wide - 1 }

// every: all lists of so many numbers 0 and 1.
func every(many int) [][]uint64 {
	all := make([][]uint64, 1<<many)
	for i := range all {
		all[i] = make([]uint64, many)
		for b := range many {
			all[i][b] = uint64(i >> b & 1)
		}
	}
	return all
}

// sample: so many numbers of so many bits, in rows that are shorter, as long, and
// longer than a block.
func sample(many, wide int) []uint64 {
	var l []uint64
	for i := uint64(many + 1); len(l) < many; i++ {
		mixed := i * 0x9e3779b97f4a7c15
		l = append(l, repeated(mixed>>7&most(wide), int(mixed>>60)%13+1)...)
	}
	return l[:many]
}

// text: a text of parts, that of a run told as its head and its one number, that of
// blocks as its head and all their numbers.
func text(t *testing.T, wide int, heads []uint64, numbers ...[]uint64) string {
	t.Helper()
	out := ""
	for i, head := range heads {
		s, e := bits.Pack(numbers[i], wide)
		if e != api.OK {
			t.Fatalf("Pack(%d, %d) has error %d", numbers[i], wide, e)
		}
		out += vary.Write(head) + s
	}
	return out
}

// spelt: the form of a list as the document tells it, block by block, each part
// written down once it is known where it ends.
func spelt(t *testing.T, l []uint64, wide int) string {
	t.Helper()
	out := ""
	var open []uint64
	shut := func() {
		if len(open) > 0 {
			out += text(t, wide, of(uint64(len(open)/8*2+1)), open)
			open = nil
		}
	}
	for len(l) > 0 {
		k := 0
		for k < len(l) && l[k] == l[0] {
			k++
		}
		if k >= 8 {
			shut()
			out += text(t, wide, of(uint64(2*k)), l[:1])
			l = l[k:]
			continue
		}
		block := make([]uint64, 8)
		l = l[copy(block, l):]
		open = append(open, block...)
	}
	shut()
	return out
}

func wantWrite(t *testing.T, l []uint64, wide int, s string, e api.Errno) {
	t.Helper()
	if gs, ge := hybrid.Write(l, wide); gs != s || ge != e {
		t.Errorf("Write(%d, %d) = %x %d, must be %x %d", l, wide, gs, ge, s, e)
	}
}

func wantRead(t *testing.T, s string, many, wide int, l []uint64, e api.Errno) {
	t.Helper()
	if gl, ge := hybrid.Read(s, many, wide); !slices.Equal(gl, l) || ge != e {
		t.Errorf("Read(%x, %d, %d) = %d %d, must be %d %d", s, many, wide, gl, ge, l, e)
	}
}

func TestE1Write(t *testing.T) {
	for _, c := range []struct {
		l    []uint64
		wide int
		want string
	}{
		{nil, 0, ""},
		{nil, 64, ""},
		{of(0), 0, "\x03"},
		{of(5), 3, "\x03\x05\x00\x00"},
		{of(1, 2, 3), 3, "\x03\xd1\x00\x00"},
		{repeated(3, 7), 3, "\x03\xdb\xb6\x0d"},
		{repeated(3, 8), 3, "\x10\x03"},
		{repeated(3, 9), 3, "\x12\x03"},
		{repeated(0, 8), 0, "\x10"},
		{repeated(0, 7), 0, "\x03"},
		{repeated(1, 63), 1, "\x7e\x01"},
		{repeated(1, 64), 1, "\x80\x80\x01"},
		{repeated(0x1ff, 8), 9, "\x10\xff\x01"},
		{repeated(1<<64-1, 8), 64, "\x10\xff\xff\xff\xff\xff\xff\xff\xff"},
		{counted(1, 8), 8, "\x03\x01\x02\x03\x04\x05\x06\x07\x08"},
		{counted(1, 9), 8, "\x05\x01\x02\x03\x04\x05\x06\x07\x08\x09\x00\x00\x00\x00\x00\x00\x00"},
		{counted(1, 64), 8, "\x11" + string([]byte{
			1, 2, 3, 4, 5, 6, 7, 8, 9, 10, 11, 12, 13, 14, 15, 16, 17, 18, 19, 20, 21, 22, 23, 24, 25, 26, 27, 28, 29, 30, 31, 32,
			33, 34, 35, 36, 37, 38, 39, 40, 41, 42, 43, 44, 45, 46, 47, 48, 49, 50, 51, 52, 53, 54, 55, 56, 57, 58, 59, 60, 61, 62, 63, 64,
		})},
	} {
		wantWrite(t, c.l, c.wide, c.want, api.OK)
	}
}

// Where parts begin and end: a run behind blocks, blocks behind a run, runs side by
// side, and rows that lie across the end of a block.
func TestE1WriteParts(t *testing.T) {
	for _, c := range []struct {
		l    []uint64
		want string
	}{
		{slices.Concat(repeated(1, 8), repeated(2, 8)), "\x10\x01\x10\x02"},
		{slices.Concat(repeated(1, 9), repeated(2, 8)), "\x12\x01\x10\x02"},
		{slices.Concat(repeated(1, 8), of(2)), "\x10\x01\x03\x02\x00\x00\x00\x00\x00\x00\x00"},
		{slices.Concat(counted(1, 8), repeated(9, 8)), "\x03\x01\x02\x03\x04\x05\x06\x07\x08\x10\x09"},
		// The row of eight begins within a block, of which it gives one number: seven are left of it.
		{slices.Concat(counted(1, 7), repeated(9, 8)), "\x05\x01\x02\x03\x04\x05\x06\x07\x09\x09\x09\x09\x09\x09\x09\x09\x00"},
		// Nine of a row, the first one in a block: a run of the eight behind it.
		{slices.Concat(counted(1, 7), repeated(9, 9)), "\x03\x01\x02\x03\x04\x05\x06\x07\x09\x10\x09"},
		{slices.Concat(counted(1, 1), repeated(9, 14)), "\x05\x01\x09\x09\x09\x09\x09\x09\x09\x09\x09\x09\x09\x09\x09\x09\x00"},
		{slices.Concat(counted(1, 1), repeated(9, 15)), "\x03\x01\x09\x09\x09\x09\x09\x09\x09\x10\x09"},
		{slices.Concat(repeated(7, 7), repeated(9, 9)), "\x03\x07\x07\x07\x07\x07\x07\x07\x09\x10\x09"},
		// Two blocks, a run, two blocks: three parts.
		{
			slices.Concat(counted(1, 16), repeated(0, 10), counted(1, 9)),
			"\x05\x01\x02\x03\x04\x05\x06\x07\x08\x09\x0a\x0b\x0c\x0d\x0e\x0f\x10" + "\x14\x00" +
				"\x05\x01\x02\x03\x04\x05\x06\x07\x08\x09\x00\x00\x00\x00\x00\x00\x00",
		},
	} {
		wantWrite(t, c.l, 8, c.want, api.OK)
	}
}

func TestE1WriteEveryList(t *testing.T) {
	for many := range 18 {
		for _, l := range every(many) {
			wantWrite(t, l, 1, spelt(t, l, 1), api.OK)
		}
	}
}

func TestE1WriteEveryWidth(t *testing.T) {
	for wide := range api.MaxWide + 1 {
		for many := range api.MaxList + 1 {
			l := sample(many, wide)
			wantWrite(t, l, wide, spelt(t, l, wide), api.OK)
		}
	}
}

func TestE1WriteErrors(t *testing.T) {
	for _, wide := range []int{math.MinInt, -1, api.MaxWide + 1, math.MaxInt} {
		wantWrite(t, nil, wide, "", api.ErrRange)
		wantWrite(t, of(1), wide, "", api.ErrRange)
		wantWrite(t, make([]uint64, api.MaxList+1), wide, "", api.ErrRange)
	}
	many := make([]uint64, api.MaxList+1)
	wantWrite(t, many, 0, "", api.ErrMany)
	wantWrite(t, many, api.MaxWide, "", api.ErrMany)
	many[64] = 9
	wantWrite(t, many, 2, "", api.ErrMany)
	for wide := range api.MaxWide {
		wantWrite(t, of(most(wide)+1), wide, "", api.ErrOver)
		wantWrite(t, repeated(most(wide)+1, 8), wide, "", api.ErrOver)
		wantWrite(t, of(most(wide), 0, 1<<64-1), wide, "", api.ErrOver)
		wantWrite(t, append(repeated(0, 63), most(wide)+1), wide, "", api.ErrOver)
	}
}

// Parts that Write would not make so are read nonetheless.
func TestE2ReadAnyParts(t *testing.T) {
	wantRead(t, "\x02\x05", 1, 3, of(5), api.OK)
	wantRead(t, "\x02\x05\x02\x05\x02\x06", 3, 3, of(5, 5, 6), api.OK)
	wantRead(t, "\x0e\x05\x04\x06", 9, 3, append(repeated(5, 7), 6, 6), api.OK)
	wantRead(t, "\x10\x05\x10\x05", 16, 3, repeated(5, 16), api.OK)
	wantRead(t, "\x06\x03", 11, 0, repeated(0, 11), api.OK)
	wantRead(t, "\x03\x03\x02", 17, 0, repeated(0, 17), api.OK)
	wantRead(t, "\x03\xff\x03\xff", 16, 1, repeated(1, 16), api.OK)
	wantRead(t, "\x05\xff\xff", 16, 1, repeated(1, 16), api.OK)
	wantRead(t, "\x03\x0f\x03\x0f", 12, 1, of(1, 1, 1, 1, 0, 0, 0, 0, 1, 1, 1, 1), api.OK)
	wantRead(t, "\x04\x01\x03\x01", 3, 1, of(1, 1, 1), api.OK)
	wantRead(t, "\x04\x05\x03\x01\x00\x00", 8, 3, of(5, 5, 1, 0, 0, 0, 0, 0), api.OK)
	wantRead(t, "\x04\x05\x03\x01\x00\x00", 10, 3, of(5, 5, 1, 0, 0, 0, 0, 0, 0, 0), api.OK)
}

// All texts of up to four parts of a few kinds, and what they are.
func TestE2ReadEachWay(t *testing.T) {
	kinds := []struct {
		s string
		l []uint64
	}{
		{"\x02\x01", of(1)},
		{"\x02\x00", of(0)},
		{"\x06\x01", of(1, 1, 1)},
		{"\x10\x01", repeated(1, 8)},
		{"\x03\xa5", of(1, 0, 1, 0, 0, 1, 0, 1)},
		{"\x03\xff", repeated(1, 8)},
		{"\x05\x01\x80", append(append(of(1), repeated(0, 14)...), 1)},
	}
	var grown func(s string, l []uint64, more int)
	grown = func(s string, l []uint64, more int) {
		wantRead(t, s, len(l), 1, l, api.OK)
		wantRead(t, s, len(l)+1, 1, nil, api.ErrNone)
		wantRead(t, s+"\x00", len(l), 1, nil, api.ErrForm)
		for tail := range 8 {
			last := append(repeated(0, tail), 1)
			block := s + "\x03" + string([]byte{1 << tail})
			wantRead(t, block, len(l)+tail+1, 1, slices.Concat(l, last), api.OK)
			if tail > 0 {
				wantRead(t, block, len(l)+tail, 1, nil, api.ErrForm)
			}
		}
		if more == 0 {
			return
		}
		for _, k := range kinds {
			if len(l)+len(k.l) <= api.MaxList-8 {
				grown(s+k.s, slices.Concat(l, k.l), more-1)
			}
		}
	}
	grown("", nil, 4)
}

func TestE2ReadLimits(t *testing.T) {
	for _, s := range []string{"", "\x02\x05", "\x00", "\x80"} {
		for _, wide := range []int{math.MinInt, -1, api.MaxWide + 1, math.MaxInt} {
			for _, many := range []int{math.MinInt, -1, 0, 1, 64, 65, math.MaxInt} {
				wantRead(t, s, many, wide, nil, api.ErrRange)
			}
		}
		for _, wide := range []int{0, 3, api.MaxWide} {
			wantRead(t, s, math.MinInt, wide, nil, api.ErrRange)
			wantRead(t, s, -1, wide, nil, api.ErrRange)
			wantRead(t, s, api.MaxList+1, wide, nil, api.ErrMany)
			wantRead(t, s, math.MaxInt, wide, nil, api.ErrMany)
		}
	}
}

func TestE2ReadNothing(t *testing.T) {
	for wide := range api.MaxWide + 1 {
		wantRead(t, "", 0, wide, nil, api.OK)
		for _, s := range []string{"\x00", "\x02\x00", "\x03", "\x80", "\xff"} {
			wantRead(t, s, 0, wide, nil, api.ErrForm)
		}
		wantRead(t, "", 1, wide, nil, api.ErrNone)
	}
}

// Of each part the error that is named first.
func TestE2ReadPartErrors(t *testing.T) {
	for _, c := range []struct {
		s    string
		many int
		e    api.Errno
	}{
		// The head.
		{"\x80", 1, api.ErrNone},
		{"\xff\xff\xff", 1, api.ErrNone},
		{"\x80\x02\x05", 1, api.ErrForm},
		{"\x80\x02", 1, api.ErrForm},
		{"\x02\x05\x80\x02\x05", 2, api.ErrForm},
		{"\x02\x05\xc0\x00", 2, api.ErrNone},
		// Of none.
		{"\x00", 1, api.ErrForm},
		{"\x00\x05", 1, api.ErrForm},
		{"\x01", 1, api.ErrForm},
		{"\x01", 64, api.ErrForm},
		{"\x02\x05\x00\x02\x05", 2, api.ErrForm},
		// More than are wanted, ahead of what is not there.
		{"\x04", 1, api.ErrMany},
		{"\x04\x05", 1, api.ErrMany},
		{"\x04\xff", 1, api.ErrMany},
		{"\x12\x05", 8, api.ErrMany},
		{"\x05", 8, api.ErrMany},
		{"\x05", 1, api.ErrMany},
		{"\x07", 16, api.ErrMany},
		{"\x13", 64, api.ErrMany},
		{"\x80\x82", 64, api.ErrMany},
		{"\x02\x05\x04\x05", 2, api.ErrMany},
		{"\x02\x05\x05", 9, api.ErrMany},
		{"\xff\xff\xff\xff\xff\xff\xff\xff\xff", 64, api.ErrMany},
		{"\xff\xff\xff\xff\xff\xff\xff\xff\xfe", 64, api.ErrMany},
		// Not all there.
		{"\x02", 1, api.ErrNone},
		{"\x80\x80", 64, api.ErrNone},
		{"\x03", 1, api.ErrNone},
		{"\x03\x00\x00", 8, api.ErrNone},
		{"\x03\x00\xff", 1, api.ErrNone},
		{"\x05\x00\x00\x00\x00\x00", 9, api.ErrNone},
		{"\x05\x00\x00\x00\x00\xff", 9, api.ErrNone},
		{"\x11", 64, api.ErrNone},
		{"\x02\x05", 2, api.ErrNone},
		{"\x02\x05\x02", 2, api.ErrNone},
		// Bits and numbers that must be 0.
		{"\x02\x08", 1, api.ErrForm},
		{"\x02\x85", 1, api.ErrForm},
		{"\x10\x0d", 8, api.ErrForm},
		{"\x03\x05\x01\x00", 2, api.ErrForm},
		{"\x03\x08\x00\x00", 1, api.ErrForm},
		{"\x03\x05\x00\x80", 7, api.ErrForm},
		{"\x03\x05\x00\x20", 7, api.ErrForm},
		{"\x05\x00\x00\x00\x08\x00\x00", 9, api.ErrForm},
		// Something left.
		{"\x02\x05\x00", 1, api.ErrForm},
		{"\x02\x05\x02\x05", 1, api.ErrForm},
		{"\x03\x00\x00\x00\x03\x00\x00\x00", 8, api.ErrForm},
		// The first part that is wrong tells.
		{"\x04\x05\x00", 1, api.ErrMany},
		{"\x02\x08\x04\x05", 2, api.ErrForm},
		{"\x02\x08", 2, api.ErrForm},
		{"\x02\x08\x00", 1, api.ErrForm},
	} {
		wantRead(t, c.s, c.many, 3, nil, c.e)
	}
}

// A part may have no more than are wanted; the last block up to seven more.
func TestE2ReadHowMany(t *testing.T) {
	for wide := range 4 {
		for many := 1; many <= api.MaxList; many++ {
			for k := 1; k < 140; k++ {
				s := text(t, wide, of(uint64(2*k)), of(most(wide)))
				switch {
				case k == many:
					wantRead(t, s, many, wide, repeated(most(wide), many), api.OK)
				case k < many:
					wantRead(t, s, many, wide, nil, api.ErrNone)
				default:
					wantRead(t, s, many, wide, nil, api.ErrMany)
				}
			}
			for k := 1; k < 20; k++ {
				s := vary.Write(uint64(2*k+1)) + strings.Repeat("\x00", k*wide)
				switch {
				case 8*k > many+7:
					wantRead(t, s, many, wide, nil, api.ErrMany)
				case 8*k >= many:
					wantRead(t, s, many, wide, repeated(0, many), api.OK)
				default:
					wantRead(t, s, many, wide, nil, api.ErrNone)
				}
			}
		}
	}
}

// Heads that would run over, if eight times what they say were reckoned of them.
func TestE2ReadGreatHeads(t *testing.T) {
	for wide := range api.MaxWide + 1 {
		for b := 7; b < 64; b++ {
			for _, more := range of(0, 1, 2, 3, 4, 5, 1<<b-2, 1<<b-1) {
				s := vary.Write(1<<b|more) + strings.Repeat("\x00", 600)
				for _, many := range []int{1, 8, 63} {
					wantRead(t, s, many, wide, nil, api.ErrMany)
				}
			}
		}
	}
}

// Each bit of a number is one of it; each other one of a part's numbers is seen.
func TestE2ReadEachBit(t *testing.T) {
	for wide := range 20 {
		for b := range (wide + 7) / 8 * 8 {
			s := make([]byte, (wide+7)/8)
			s[b/8] = 1 << (b % 8)
			if b < wide {
				wantRead(t, "\x0a"+string(s), 5, wide, repeated(1<<b, 5), api.OK)
			} else {
				wantRead(t, "\x0a"+string(s), 5, wide, nil, api.ErrForm)
			}
		}
		for many := 1; many <= 16; many++ {
			k := (many + 7) / 8
			for b := range 8 * k * wide {
				s := make([]byte, k*wide)
				s[b/8] = 1 << (b % 8)
				if b >= many*wide {
					wantRead(t, vary.Write(uint64(2*k+1))+string(s), many, wide, nil, api.ErrForm)
					continue
				}
				l := make([]uint64, many)
				l[b/wide] = 1 << (b % wide)
				wantRead(t, vary.Write(uint64(2*k+1))+string(s), many, wide, l, api.OK)
			}
		}
	}
}

func TestE2ReadCutShort(t *testing.T) {
	for _, wide := range []int{0, 1, 3, 8, 13, 64} {
		for many := range api.MaxList + 1 {
			s, _ := hybrid.Write(sample(many, wide), wide)
			for c := range len(s) {
				wantRead(t, s[:c], many, wide, nil, api.ErrNone)
			}
			wantRead(t, s+"\x00", many, wide, nil, api.ErrForm)
			if many > 0 {
				wantRead(t, s+s, many, wide, nil, api.ErrForm)
			}
		}
	}
}

func TestE3ReadAsItWas(t *testing.T) {
	for many := range 17 {
		for _, l := range every(many) {
			s, _ := hybrid.Write(l, 2)
			wantRead(t, s, many, 2, l, api.OK)
		}
	}
	for wide := range api.MaxWide + 1 {
		for many := range api.MaxList + 1 {
			l := sample(many, wide)
			s, e := hybrid.Write(l, wide)
			if e != api.OK {
				t.Errorf("Write(%d, %d) has error %d", l, wide, e)
			}
			wantRead(t, s, many, wide, l, api.OK)
		}
	}
}

// Two texts, one behind the other, are both lists, if the first one's blocks are full.
func TestE3OneBehindTheOther(t *testing.T) {
	firsts := [][]uint64{
		nil, repeated(3, 8), repeated(3, 13), counted(0, 8), counted(0, 16),
		slices.Concat(counted(0, 8), repeated(7, 9)), slices.Concat(repeated(7, 9), counted(0, 16)),
	}
	for wide := 5; wide <= api.MaxWide; wide++ {
		for _, a := range firsts {
			s, _ := hybrid.Write(a, wide)
			for many := range api.MaxList + 1 - len(a) {
				b := sample(many, wide)
				r, _ := hybrid.Write(b, wide)
				wantRead(t, s+r, len(a)+many, wide, slices.Concat(a, b), api.OK)
			}
		}
	}
}

// Where the first one's last block is not full, the numbers 0 behind it stand between.
func TestE3NotFull(t *testing.T) {
	for many := 1; many < 8; many++ {
		a, b := counted(1, many), repeated(9, 20)
		s, _ := hybrid.Write(a, 8)
		r, _ := hybrid.Write(b, 8)
		wantRead(t, s+r, many+20, 8, nil, api.ErrMany)
		wantRead(t, s+r, 28, 8, slices.Concat(a, repeated(0, 8-many), b), api.OK)
	}
}

// What is read of a strange text may be written, and is read again; all else is
// nothing but an error.
func TestP1StrangeTexts(t *testing.T) {
	strange := []int{math.MinInt, -65, -1, 0, 1, 2, 7, 8, 9, 16, 63, 64, 65, 1 << 32, 1 << 61, 1 << 62, math.MaxInt}
	texts := []string{
		"\xff\xff\xff\xff\xff\xff\xff\xff\xff", "\xff\x40\x00\x00\x00\x00\x00\x00\x01", "\xff\x80\x00\x00\x00\x00\x00\x00\x00",
		strings.Repeat("\x02\x01", 64), strings.Repeat("\x03", 64), strings.Repeat("\x03\xff", 8), strings.Repeat("\x00", 5000), strings.Repeat("\xff", 600),
	}
	for i := range 1 << 16 {
		if i%7 == 0 || i < 1<<13 {
			texts = append(texts, string([]byte{byte(i), byte(i >> 8)}))
		}
	}
	for _, s := range texts {
		for _, many := range strange {
			for _, wide := range []int{math.MinInt, -1, 0, 1, 3, 8, 64, 65, math.MaxInt} {
				l, e := hybrid.Read(s, many, wide)
				if e != api.OK {
					if len(l) != 0 {
						t.Errorf("Read(%x, %d, %d) = %d with error %d", s, many, wide, l, e)
					}
					continue
				}
				if len(l) != many {
					t.Errorf("Read(%x, %d, %d) = %d", s, many, wide, l)
				}
				again, f := hybrid.Write(l, wide)
				if f != api.OK {
					t.Errorf("Write(%d, %d) has error %d", l, wide, f)
				}
				wantRead(t, again, many, wide, l, api.OK)
			}
		}
	}
}

func TestP2OnlyRead(t *testing.T) {
	l := slices.Concat(counted(1, 11), repeated(9, 20))
	was := slices.Clone(l)
	s, _ := hybrid.Write(l[:11], 8)
	hybrid.Write(l[:25], 8)
	if !slices.Equal(l, was) {
		t.Error("a list, or the room behind it, was changed")
	}
	clear(l)
	wantRead(t, s, 11, 8, was[:11], api.OK)
}

func TestP2NewMemory(t *testing.T) {
	for _, l := range [][]uint64{counted(1, 11), repeated(9, 20), slices.Concat(repeated(9, 20), counted(1, 16))} {
		s, _ := hybrid.Write(l, 8)
		first, _ := hybrid.Read(s, len(l), 8)
		second, _ := hybrid.Read(s, len(l), 8)
		clear(first[:cap(first)])
		if !slices.Equal(second, l) {
			t.Error("two answers share memory")
		}
		wantRead(t, s, len(l), 8, l, api.OK)
	}
}

func TestP3SameAgain(t *testing.T) {
	l := sample(60, 4)
	s := spelt(t, l, 4)
	var all sync.WaitGroup
	for range 8 {
		all.Go(func() {
			for range 100 {
				hybrid.Read(s+"\x02", 61, 4)
				hybrid.Write(l, 3)
				wantWrite(t, l, 4, s, api.OK)
				wantRead(t, s, 60, 4, l, api.OK)
			}
		})
	}
	all.Wait()
}

func TestP4LongOnes(t *testing.T) {
	l := make([]uint64, 1<<22)
	if s, e := hybrid.Write(l, 3); s != "" || e != api.ErrMany {
		t.Errorf("Write of a long list has error %d", e)
	}
	long := strings.Repeat("\x02\x01", 1<<22)
	wantLong := func(many int, e api.Errno) {
		t.Helper()
		if l, f := hybrid.Read(long, many, 3); len(l) != 0 || f != e {
			t.Errorf("Read of %d of a long text has error %d, must be %d", many, f, e)
		}
	}
	wantLong(0, api.ErrForm)
	wantLong(64, api.ErrForm)
	wantLong(65, api.ErrMany)
}
