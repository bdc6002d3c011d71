package bits_test

import (
	"math"
	"slices"
	"strings"
	"sync"
	"testing"

	"hypostyle/api"
	"hypostyle/bits"
)

// most: the greatest number of so many bits.
func most(wide int) uint64 { return 1<<wide - 1 }

// sample: so many numbers that fit into a width, with both ends among them.
func sample(many, wide int) []uint64 {
	l := make([]uint64, many)
	for i := range l {
		l[i] = (uint64(i)*0x9e3779b97f4a7c15 ^ uint64(wide)<<32) & most(wide)
		if i%5 == 1 {
			l[i] = most(wide)
		}
		if i%7 == 3 {
			l[i] = 0
		}
	}
	return l
}

// packed: what the document tells of Pack, as signs 0 and 1, the least bit first.
func packed(l []uint64, wide int) string {
	var signs strings.Builder
	for _, n := range l {
		for range wide {
			signs.WriteByte('0' + byte(n%2))
			n /= 2
		}
	}
	for signs.Len()%8 != 0 {
		signs.WriteByte('0')
	}
	all := signs.String()
	var out []byte
	for ; all != ""; all = all[8:] {
		b, value := byte(0), byte(1)
		for _, c := range []byte(all[:8]) {
			b += (c - '0') * value
			value *= 2
		}
		out = append(out, b)
	}
	return string(out)
}

func wantPack(t *testing.T, l []uint64, wide int, s string, e api.Errno) {
	t.Helper()
	if gs, ge := bits.Pack(l, wide); gs != s || ge != e {
		t.Errorf("Pack(%d, %d) = %x %d, must be %x %d", l, wide, gs, ge, s, e)
	}
}

func wantUnpack(t *testing.T, s string, many, wide int, l []uint64, e api.Errno) {
	t.Helper()
	if gl, ge := bits.Unpack(s, many, wide); !slices.Equal(gl, l) || ge != e {
		t.Errorf("Unpack(%x, %d, %d) = %d %d, must be %d %d", s, many, wide, gl, ge, l, e)
	}
}

func wantGet(t *testing.T, s string, many, wide, at int, n uint64, e api.Errno) {
	t.Helper()
	if gn, ge := bits.Get(s, many, wide, at); gn != n || ge != e {
		t.Errorf("Get(%x, %d, %d, %d) = %d %d, must be %d %d", s, many, wide, at, gn, ge, n, e)
	}
}

func TestB1Width(t *testing.T) {
	for _, c := range []struct {
		l    []uint64
		want int
	}{
		{nil, 0}, {[]uint64{}, 0}, {[]uint64{0, 0}, 0}, {[]uint64{1}, 1}, {[]uint64{0, 1, 0}, 1},
		{[]uint64{4, 3}, 3}, {[]uint64{3, 4}, 3}, {[]uint64{255}, 8}, {[]uint64{256, 1}, 9},
		{[]uint64{1 << 63}, 64}, {[]uint64{0, 1<<64 - 1, 0}, 64}, {make([]uint64, 1000), 0},
	} {
		if got := bits.Width(c.l); got != c.want {
			t.Errorf("Width(%d) = %d, must be %d", c.l, got, c.want)
		}
	}
	for i := range 64 {
		if got := bits.Width([]uint64{1 << i, 0}); got != i+1 {
			t.Errorf("Width of 2^%d = %d", i, got)
		}
	}
}

func TestB1Pack(t *testing.T) {
	wantPack(t, []uint64{5, 1, 6}, 3, "\x8d\x01", api.OK)
	wantPack(t, []uint64{1, 2, 3}, 8, "\x01\x02\x03", api.OK)
	wantPack(t, []uint64{0x0123456789abcdef}, 64, "\xef\xcd\xab\x89\x67\x45\x23\x01", api.OK)
	wantPack(t, []uint64{1, 0, 0, 0, 0, 0, 0, 0, 1}, 1, "\x01\x01", api.OK)
	wantPack(t, nil, 13, "", api.OK)
	wantPack(t, make([]uint64, api.MaxList), 0, "", api.OK)
	for wide := range api.MaxWide + 1 {
		for many := range api.MaxList + 1 {
			l := sample(many, wide)
			wantPack(t, l, wide, packed(l, wide), api.OK)
		}
	}
}

func TestB1PackErrors(t *testing.T) {
	for _, wide := range []int{math.MinInt, -1, api.MaxWide + 1, math.MaxInt} {
		wantPack(t, nil, wide, "", api.ErrRange)
		wantPack(t, []uint64{1}, wide, "", api.ErrRange)
		wantPack(t, make([]uint64, api.MaxList+1), wide, "", api.ErrRange)
	}
	many := make([]uint64, api.MaxList+1)
	wantPack(t, many, 0, "", api.ErrMany)
	wantPack(t, many, api.MaxWide, "", api.ErrMany)
	many[3] = 9
	wantPack(t, many, 2, "", api.ErrMany)
	for wide := range api.MaxWide {
		wantPack(t, []uint64{0, most(wide) + 1, 0}, wide, "", api.ErrOver)
		wantPack(t, []uint64{most(wide), 1<<64 - 1}, wide, "", api.ErrOver)
	}
}

func TestB2Unpack(t *testing.T) {
	wantUnpack(t, "\x8d\x01", 3, 3, []uint64{5, 1, 6}, api.OK)
	wantUnpack(t, "", 3, 0, []uint64{0, 0, 0}, api.OK)
	wantUnpack(t, "", 0, 17, nil, api.OK)
	for wide := range api.MaxWide + 1 {
		for many := range api.MaxList + 1 {
			l := sample(many, wide)
			wantUnpack(t, packed(l, wide), many, wide, l, api.OK)
		}
	}
}

// wrongs: texts, numbers and widths that Unpack refuses, and why.
func wrongs() []struct {
	s          string
	many, wide int
	e          api.Errno
} {
	return []struct {
		s          string
		many, wide int
		e          api.Errno
	}{
		{"", 0, -1, api.ErrRange},
		{"", 0, api.MaxWide + 1, api.ErrRange},
		{"", -1, 3, api.ErrRange},
		{"", math.MinInt, math.MaxInt, api.ErrRange},
		{"x", api.MaxList + 1, -1, api.ErrRange},
		{"x", api.MaxList + 1, api.MaxWide + 1, api.ErrRange},
		{"", api.MaxList + 1, 0, api.ErrMany},
		{"x", api.MaxList + 1, 8, api.ErrMany},
		{"", math.MaxInt, api.MaxWide, api.ErrMany},
		{"\x00", 0, 3, api.ErrForm},
		{"\x00", 3, 0, api.ErrForm},
		{"", 1, 1, api.ErrForm},
		{"\x8d", 3, 3, api.ErrForm},
		{"\x8d\x01\x00", 3, 3, api.ErrForm},
		{"\x8d\x03", 3, 3, api.ErrForm},
		{"\x8d\x81", 3, 3, api.ErrForm},
		{"\x02", 1, 1, api.ErrForm},
		{strings.Repeat("\xff", 511), api.MaxList, api.MaxWide, api.ErrForm},
		{strings.Repeat("\xff", 513), api.MaxList, api.MaxWide, api.ErrForm},
	}
}

func TestB2UnpackErrors(t *testing.T) {
	for _, c := range wrongs() {
		wantUnpack(t, c.s, c.many, c.wide, nil, c.e)
	}
}

// Each bit behind the last number, alone, is seen; each bit of a number is one of it.
func TestB2UnpackEachBit(t *testing.T) {
	for wide := range 20 {
		for many := range 12 {
			size := (many*wide + 7) / 8
			for b := range 8 * size {
				s := make([]byte, size)
				s[b/8] = 1 << (b % 8)
				if b >= many*wide {
					wantUnpack(t, string(s), many, wide, nil, api.ErrForm)
					continue
				}
				l := make([]uint64, many)
				l[b/wide] = 1 << (b % wide)
				wantUnpack(t, string(s), many, wide, l, api.OK)
			}
		}
	}
}

func TestB2Get(t *testing.T) {
	for _, wide := range []int{0, 1, 3, 7, 8, 9, 31, 63, 64} {
		for _, many := range []int{1, 2, 8, 63, 64} {
			l := sample(many, wide)
			s := packed(l, wide)
			for at, n := range l {
				wantGet(t, s, many, wide, at, n, api.OK)
			}
			for _, at := range []int{math.MinInt, -1, many, many + 1, math.MaxInt} {
				wantGet(t, s, many, wide, at, 0, api.ErrRange)
			}
		}
	}
	wantGet(t, "", 0, 5, 0, 0, api.ErrRange)
}

func TestB2GetErrors(t *testing.T) {
	for _, c := range wrongs() {
		for _, at := range []int{math.MinInt, -1, 0, 1, c.many, math.MaxInt} {
			wantGet(t, c.s, c.many, c.wide, at, 0, c.e)
		}
	}
}

func TestB3WholeBytes(t *testing.T) {
	for wide := range api.MaxWide + 1 {
		for _, many := range []int{0, 8, 16, 32} {
			for more := range 33 {
				a, b := sample(many, wide), sample(many+more, wide)[many:]
				both := slices.Concat(a, b)
				s, _ := bits.Pack(a, wide)
				r, _ := bits.Pack(b, wide)
				wantPack(t, both, wide, s+r, api.OK)
				wantUnpack(t, s+r, len(both), wide, both, api.OK)
			}
		}
	}
}

// What is read of a strange text is written as just that text; all else is nothing but an error.
func TestP1StrangeTexts(t *testing.T) {
	strange := []int{math.MinInt, -1, 0, 1, 2, 3, 7, 8, 9, 63, 64, 65, 1 << 32, 1 << 62, math.MaxInt}
	texts := []string{"", "\x00", "\x01", "\xff", "\x8d\x01", "\xff\x00\xff", strings.Repeat("\xa5", 64), strings.Repeat("\xff", 512), strings.Repeat("\x00", 5000)}
	for _, s := range texts {
		for _, many := range strange {
			for _, wide := range strange {
				l, e := bits.Unpack(s, many, wide)
				if e != api.OK && len(l) != 0 {
					t.Errorf("Unpack(%x, %d, %d) = %d with error %d", s, many, wide, l, e)
				}
				if e == api.OK {
					wantPack(t, l, wide, s, api.OK)
				}
				for _, at := range strange {
					n, f := bits.Get(s, many, wide, at)
					if f != api.OK && n != 0 {
						t.Errorf("Get(%x, %d, %d, %d) = %d with error %d", s, many, wide, at, n, f)
					}
					if e != api.OK && f != e {
						t.Errorf("Get(%x, %d, %d, %d) has error %d, Unpack %d", s, many, wide, at, f, e)
					}
				}
			}
		}
	}
}

func TestP2OnlyRead(t *testing.T) {
	room := sample(api.MaxList, 20)
	was := slices.Clone(room)
	bits.Width(room[:9])
	s, _ := bits.Pack(room[:9], 20)
	if !slices.Equal(room, was) {
		t.Error("a list, or the room behind it, was changed")
	}
	clear(room)
	if s != packed(was[:9], 20) {
		t.Error("a change of the list is seen in what Pack answered")
	}
}

func TestP2NewMemory(t *testing.T) {
	l := sample(10, 5)
	s := packed(l, 5)
	a, _ := bits.Unpack(s, 10, 5)
	b, _ := bits.Unpack(s, 10, 5)
	clear(a[:cap(a)])
	if !slices.Equal(b, l) {
		t.Error("two answers of Unpack share memory")
	}
	wantUnpack(t, s, 10, 5, l, api.OK)
}

func TestP3SameAgain(t *testing.T) {
	var all sync.WaitGroup
	for range 8 {
		all.Go(func() {
			for wide := range api.MaxWide + 1 {
				l := sample(40, wide)
				wantPack(t, l, wide, packed(l, wide), api.OK)
				bits.Pack([]uint64{1<<64 - 1}, wide)
				bits.Unpack("\xff", 3, wide)
				wantUnpack(t, packed(l, wide), 40, wide, l, api.OK)
			}
		})
	}
	all.Wait()
}

func TestP4LongLists(t *testing.T) {
	l := make([]uint64, 1<<22)
	l[len(l)-1] = 1 << 40
	if got := bits.Width(l); got != 41 {
		t.Errorf("Width of a long list = %d", got)
	}
	wantPack(t, l[:api.MaxList+1], 0, "", api.ErrMany)
	if s, e := bits.Pack(l, 64); s != "" || e != api.ErrMany {
		t.Errorf("Pack of a long list has error %d", e)
	}
	if got, e := bits.Unpack(strings.Repeat("\x00", 1<<22), api.MaxList, api.MaxWide); len(got) != 0 || e != api.ErrForm {
		t.Errorf("Unpack of a long text has error %d", e)
	}
}
