package adler_test

import (
	stdadler "hash/adler32"
	"math"
	"slices"
	"strings"
	"sync"
	"testing"

	"hypostyle/adler"
	"hypostyle/api"
)

// limit: the most bytes that Joined and Roll may be told of.
const limit = 1<<31 - 1

// spelt: the sum of a text behind whatever sum, as the document tells it.
func spelt(c uint32, s string) uint32 {
	low, high := uint64(c%65536), uint64(c/65536)
	for i := range len(s) {
		low += uint64(s[i])
		high += low
	}
	return 65536*uint32(high%65521) + uint32(low%65521)
}

// plain: whatever sum, its halves modulo 65521.
func plain(c uint32) uint32 { return spelt(c, "") }

// sums: such as a text may have, and such as none has.
func sums() []uint32 {
	l := []uint32{0, 1, 2, 65519, 65520, 65521, 65522, 65535, 65536, 65537, 0xfff00000, 0xfff0fff0, 0xfff1fff1, 0xfff1ffff, 0xfffffff1, math.MaxUint32, 1 << 31, 12345678}
	for i := range uint32(200) {
		l = append(l, (i*i+i+1)*0x9e3779b9)
	}
	return l
}

// texts of all kinds.
func texts() []string {
	l := []string{"", "\x00", "\x00\x00", "\xff", "a", "ab", "ba", "rook", "wren", "Wikipedia", "é", strings.Repeat("\xff", 256), strings.Repeat("\xff", 257), strings.Repeat("\xff", 5553), strings.Repeat("\x00", 65521), strings.Repeat("\xff", 70000)}
	for many := range 300 {
		s := make([]byte, many)
		for i := range s {
			s[i] = byte(uint64(i*i+many*7+3) * 0x9e3779b97f4a7c15 >> 40)
		}
		l = append(l, string(s))
	}
	return l
}

// short ones of the texts.
func short() []string {
	return slices.DeleteFunc(texts(), func(s string) bool { return len(s) > 300 })
}

func wantOf(t *testing.T, s string, c uint32) {
	t.Helper()
	if g := adler.Of(s); g != c {
		t.Errorf("Of %d bytes, %.20q.., is %08x, must be %08x", len(s), s, g, c)
	}
}

func wantMore(t *testing.T, c uint32, s string, sum uint32) {
	t.Helper()
	if g := adler.More(c, s); g != sum {
		t.Errorf("More(%08x, %.20q..) = %08x, must be %08x", c, s, g, sum)
	}
}

func wantJoined(t *testing.T, a, b uint32, n int, c uint32, e api.Errno) {
	t.Helper()
	if g, ge := adler.Joined(a, b, n); g != c || ge != e {
		t.Errorf("Joined(%08x, %08x, %d) = %08x %d, must be %08x %d", a, b, n, g, ge, c, e)
	}
}

func wantRoll(t *testing.T, c uint32, n int, out, in byte, sum uint32, e api.Errno) {
	t.Helper()
	if g, ge := adler.Roll(c, n, out, in); g != sum || ge != e {
		t.Errorf("Roll(%08x, %d, %d, %d) = %08x %d, must be %08x %d", c, n, out, in, g, ge, sum, e)
	}
}

func TestP5Of(t *testing.T) {
	for _, c := range []struct {
		s   string
		sum uint32
	}{
		{"", 1},
		{"\x00", 0x00010001},
		{"\x01", 0x00020002},
		{"\xff", 0x01000100},
		{"a", 0x00620062},
		{"ab", 0x012600c4},
		{"ba", 0x012700c4},
		{"Wikipedia", 0x11e60398},
		{strings.Repeat("\xff", 9999), 0xcae9ea2c},
		// The lower half runs round to 0: 1, 256 times 255, and 240.
		{strings.Repeat("\xff", 256) + "\xf0", plain(spelt(1, strings.Repeat("\xff", 256)+"\xf0"))},
		{strings.Repeat("\x00", 65520), 65520<<16 | 1},
		{strings.Repeat("\x00", 65521), 1},
	} {
		wantOf(t, c.s, c.sum)
	}
	if low := adler.Of(strings.Repeat("\xff", 256)+"\xf0") % 65536; low != 0 {
		t.Errorf("the lower half is %d, must be 0", low)
	}
}

func TestP5OfEach(t *testing.T) {
	for _, s := range texts() {
		wantOf(t, s, spelt(1, s))
		wantOf(t, s, stdadler.Checksum([]byte(s)))
	}
}

func TestP5More(t *testing.T) {
	for _, s := range short() {
		for at := range len(s) + 1 {
			wantMore(t, spelt(1, s[:at]), s[at:], spelt(1, s))
		}
	}
	wantMore(t, 1, "Wikipedia", 0x11e60398)
	wantMore(t, 0, "", 0)
	wantMore(t, 0, "\x01", 0x00010001)
}

// Of whatever sum the halves are taken modulo 65521.
func TestP5MoreWhatever(t *testing.T) {
	wantMore(t, math.MaxUint32, "", 14<<16|14)
	wantMore(t, 65521, "", 0)
	wantMore(t, 65521<<16, "", 0)
	wantMore(t, 65520<<16|65520, "", 65520<<16|65520)
	wantMore(t, 65520<<16|65520, "\x01", 65520<<16)
	for _, c := range sums() {
		wantMore(t, c, "", plain(c))
		for _, s := range short()[:60] {
			wantMore(t, c, s, spelt(c, s))
		}
	}
}

func TestP6Joined(t *testing.T) {
	for _, s := range short() {
		for at := range len(s) + 1 {
			wantJoined(t, spelt(1, s[:at]), spelt(1, s[at:]), len(s)-at, spelt(1, s), api.OK)
		}
	}
	all := texts()
	for i, a := range all {
		b := all[(i*7+5)%len(all)]
		wantJoined(t, spelt(1, a), spelt(1, b), len(b), spelt(1, a+b), api.OK)
		wantJoined(t, spelt(1, b), spelt(1, a), len(a), spelt(1, b+a), api.OK)
	}
	wantJoined(t, 1, 1, 0, 1, api.OK)
	wantJoined(t, 0x00620062, 0x00630063, 1, 0x012600c4, api.OK)
	wantJoined(t, 0x00630063, 0x00620062, 1, 0x012700c4, api.OK)
}

// joined: what Joined tells of whatever sums and size, reckoned with numbers that never run over.
func joined(a, b uint32, n int) uint32 {
	const m = 65521
	low, high := int64(a%65536%m), int64(a/65536%m)
	high = (high + int64(b/65536)%m + int64(n%m)*(low-1) + m) % m
	low = (low + int64(b%65536)%m - 1 + m) % m
	return uint32((high+m)%m)*65536 + uint32(low)
}

func TestP6JoinedWhatever(t *testing.T) {
	for i, a := range sums() {
		for k, b := range sums() {
			for _, n := range []int{0, 1, 2, 65520, 65521, 65522, 1 << 20, limit - 1, limit, (i*k + i + k) * 9973} {
				wantJoined(t, a, b, n, joined(a, b, n), api.OK)
			}
		}
	}
	// Behind a sum of 0 each byte of the second one counts one less.
	wantJoined(t, 0, 77, 0, 76, api.OK)
	wantJoined(t, 0, 77, 2, 65519<<16|76, api.OK)
	wantJoined(t, 5, 12345678, limit, 634<<16|24914, api.OK)
}

func TestP6Roll(t *testing.T) {
	for _, s := range texts() {
		for _, in := range []byte{0, 1, 'z', 255} {
			if s != "" {
				wantRoll(t, spelt(1, s), len(s), s[0], in, spelt(1, s[1:]+string([]byte{in})), api.OK)
			}
		}
	}
	for out := range 256 {
		for in := range 256 {
			s := string([]byte{byte(out), 'a', byte(in)})
			wantRoll(t, spelt(1, s[:2]), 2, s[0], s[2], spelt(1, s[1:]), api.OK)
			wantRoll(t, spelt(1, s[:1]), 1, s[0], s[2], spelt(1, s[2:]), api.OK)
		}
	}
}

// A window that goes along a text has the sum of what is in it.
func TestP6RollAlong(t *testing.T) {
	for _, s := range texts()[280:] {
		for _, n := range []int{1, 2, 3, 64, 255} {
			c := adler.Of(s[:n])
			for at := n; at < len(s); at++ {
				c, _ = adler.Roll(c, n, s[at-n], s[at])
				if c != spelt(1, s[at-n+1:at+1]) {
					t.Fatalf("a window of %d at %d has the sum %08x", n, at, c)
				}
			}
		}
	}
}

// rolled: what Roll tells of whatever sum and size, reckoned with numbers that never run over.
func rolled(c uint32, n int, out, in byte) uint32 {
	const m = 65521
	low := (int64(c%65536)%m - int64(out) + int64(in) + m) % m
	high := (int64(c/65536)%m - int64(n)*int64(out)%m - 1 + low + 2*m) % m
	return uint32(high)*65536 + uint32(low)
}

func TestP6RollWhatever(t *testing.T) {
	for i, c := range sums() {
		for _, n := range []int{1, 2, 256, 257, 65520, 65521, 65522, 1 << 20, limit - 1, limit, (i*i + i + 1) * 9973} {
			for _, out := range []byte{0, 1, 2, 127, 128, 200, 254, 255} {
				for _, in := range []byte{0, 1, 7, 255} {
					wantRoll(t, c, n, out, in, rolled(c, n, out, in), api.OK)
				}
			}
		}
	}
	wantRoll(t, 0, 1, 0, 0, 65520<<16, api.OK)
	wantRoll(t, 0, 1, 255, 0, (65521-255-256)<<16|(65521-255), api.OK)
	wantRoll(t, math.MaxUint32, 1, 0, 0, (14+13)<<16|14, api.OK)
}

func TestP6Errors(t *testing.T) {
	for _, c := range sums() {
		for _, n := range []int{math.MinInt, math.MinInt32, -65521, -2, -1, limit + 1, limit + 2, 1 << 32, 1<<32 + 1, math.MaxInt} {
			wantJoined(t, c, 77, n, 0, api.ErrRange)
			wantJoined(t, 5, c, n, 0, api.ErrRange)
			wantRoll(t, c, n, 200, 7, 0, api.ErrRange)
		}
		wantJoined(t, c, 1, 0, plain(c), api.OK)
		wantJoined(t, 1, c, 0, plain(c), api.OK)
		wantJoined(t, 1, c, limit, plain(c), api.OK)
		wantRoll(t, c, 0, 200, 7, 0, api.ErrRange)
		wantRoll(t, c, 0, 0, 0, 0, api.ErrRange)
		wantRoll(t, c, limit, 9, 9, rolled(c, limit, 9, 9), api.OK)
		wantRoll(t, c, 1, 9, 9, rolled(c, 1, 9, 9), api.OK)
	}
}

// A text of which one byte was changed has another sum.
func TestP7Changed(t *testing.T) {
	for _, s := range short()[:120] {
		for at := range len(s) {
			for b := range 256 {
				other := s[:at] + string([]byte{byte(b)}) + s[at+1:]
				if (adler.Of(other) == adler.Of(s)) != (other == s) {
					t.Errorf("%q and %q have the sums %08x and %08x", s, other, adler.Of(s), adler.Of(other))
				}
			}
		}
	}
}

// So has one of which two bytes that differ, side by side, were changed about.
func TestP7ChangedAbout(t *testing.T) {
	for _, s := range short() {
		for at := 1; at < len(s); at++ {
			other := s[:at-1] + string([]byte{s[at], s[at-1]}) + s[at+1:]
			if (adler.Of(other) == adler.Of(s)) != (other == s) {
				t.Errorf("%q and %q have the sums %08x and %08x", s, other, adler.Of(s), adler.Of(other))
			}
		}
	}
	for a := range 256 {
		for b := range a {
			s, other := string([]byte{9, byte(a), byte(b), 9}), string([]byte{9, byte(b), byte(a), 9})
			if adler.Of(s) == adler.Of(other) {
				t.Errorf("%q and %q have one sum", s, other)
			}
		}
	}
}

// Of long texts, too, whose halves run round many times.
func TestP7Long(t *testing.T) {
	s := []byte(strings.Repeat("rook and wren \xff\x00", 1<<13))
	c := adler.Of(string(s))
	for at := 1; at < len(s); at += 4099 {
		was := s[at]
		s[at] ^= byte(at%255 + 1)
		if adler.Of(string(s)) == c {
			t.Errorf("a byte changed at %d is not seen", at)
		}
		s[at] = was
		s[at-1], s[at] = s[at], s[at-1]
		if (adler.Of(string(s)) == c) != (s[at-1] == s[at]) {
			t.Errorf("two bytes changed about at %d are not seen", at)
		}
		s[at-1], s[at] = s[at], s[at-1]
	}
}

// Whatever is handed in, a sum has two halves, each below 65521, and an error has none.
func TestP1Strange(t *testing.T) {
	for i, a := range sums() {
		for k, b := range sums() {
			n := []int{math.MinInt, -1, 0, 1, 65521, limit, limit + 1, math.MaxInt}[(i+k)%8]
			j, je := adler.Joined(a, b, n)
			r, re := adler.Roll(a, n, byte(b), byte(b>>8))
			if je != api.OK && j != 0 || re != api.OK && r != 0 {
				t.Errorf("with an error there is %08x, or %08x", j, r)
			}
			for _, c := range []uint32{j, r, adler.More(a, "ab")} {
				if c%65536 >= 65521 || c/65536 >= 65521 {
					t.Errorf("of %08x, %08x and %d there is %08x", a, b, n, c)
				}
			}
		}
	}
}

func TestP2OnlyRead(t *testing.T) {
	b := []byte("rook and wren")
	c := adler.Of(string(b))
	clear(b)
	wantOf(t, "rook and wren", c)
	wantOf(t, "rook and wren", spelt(1, "rook and wren"))
}

func TestP3SameAgain(t *testing.T) {
	var all sync.WaitGroup
	for range 8 {
		all.Go(func() {
			for range 500 {
				adler.More(math.MaxUint32, "rook")
				adler.Roll(7, 0, 1, 2)
				adler.Joined(7, 7, -1)
				wantOf(t, "Wikipedia", 0x11e60398)
				wantMore(t, 77, "wren", spelt(77, "wren"))
				wantJoined(t, spelt(1, "rook"), spelt(1, "wren"), 4, spelt(1, "rookwren"), api.OK)
				wantRoll(t, spelt(1, "rook"), 4, 'r', 's', spelt(1, "ooks"), api.OK)
			}
		})
	}
	all.Wait()
}

func TestP4LongOnes(t *testing.T) {
	long := strings.Repeat("\xff\xfe\x00w", 1<<24)
	if adler.Of(long) != stdadler.Checksum([]byte(long)) {
		t.Error("Of a long text is another one")
	}
	half := len(long)/2 + 1
	wantJoined(t, adler.Of(long[:half]), adler.Of(long[half:]), len(long)-half, adler.Of(long), api.OK)
	wantRoll(t, adler.Of(long[1:]), len(long)-1, long[1], 9, adler.More(adler.Of(long[2:]), "\x09"), api.OK)
}
