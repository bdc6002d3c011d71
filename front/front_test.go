package front_test

import (
	"slices"
	"strings"
	"sync"
	"testing"

	"hypostyle/api"
	"hypostyle/front"
)

// of: a list of texts.
func of(l ...string) []string { return l }

// wide: a text of the most bytes.
var wide = strings.Repeat("w", api.MaxText)

// words: texts that begin alike, of bytes of any kind, and the longest ones.
func words() []string {
	l := of("", "a", "b", "aa", "ab", "ba", "aab", "rook", "rooks", "roo", "room", "roomy", "wren", "é", "è", "\x00", "\x00\x00", "a\x00", "a\xff",
		"\x7f", "\x80", "\xff", "\xff\xff", "\xff\x00", "\xc3", wide, wide[1:], wide[1:]+"v", wide[2:]+"vw", strings.Repeat("\xff", api.MaxText), strings.Repeat("\x00", api.MaxText))
	for i := range api.MaxText {
		l = append(l, "0123456789abcdef"[:i+1], "0123456789abcdef"[:i]+"x")
	}
	return l
}

// sample: so many texts, some of them again and again.
func sample(many int) []string {
	all := words()
	l := make([]string, many)
	for i := range l {
		l[i] = all[(i*i+many*7)%len(all)]
	}
	return l
}

// rising: so many texts of which each begins as the ones around it do.
func rising(many int) []string {
	l := make([]string, many)
	for i := range l {
		l[i] = "texts of"[:i%9] + string(rune('0'+i))
	}
	slices.Sort(l)
	return l
}

// alike: with how many bytes two texts begin alike: the longest beginning that both have.
func alike(a, b string) int {
	n := len(a)
	for !strings.HasPrefix(b, a[:n]) {
		n--
	}
	return n
}

// spelt: a list as the document says it is written; each size is below 128, one byte.
func spelt(l []string) string {
	var out strings.Builder
	for i, s := range l {
		same := 0
		if i > 0 {
			same = alike(l[i-1], s)
		}
		out.WriteByte(byte(same))
		out.WriteByte(byte(len(s) - same))
		out.WriteString(s[same:])
	}
	return out.String()
}

func wantShared(t *testing.T, a, b string, n int) {
	t.Helper()
	if got := front.Shared(a, b); got != n {
		t.Errorf("Shared(%q, %q) = %d, must be %d", a, b, got, n)
	}
}

func wantWrite(t *testing.T, l []string, s string, e api.Errno) {
	t.Helper()
	if gs, ge := front.Write(l); gs != s || ge != e {
		t.Errorf("Write(%q) = %q %d, must be %q %d", l, gs, ge, s, e)
	}
}

func wantRead(t *testing.T, s string, many int, l []string, e api.Errno) {
	t.Helper()
	if gl, ge := front.Read(s, many); !slices.Equal(gl, l) || ge != e {
		t.Errorf("Read(%q, %d) = %q %d, must be %q %d", s, many, gl, ge, l, e)
	}
}

func TestI1Shared(t *testing.T) {
	wantShared(t, "", "", 0)
	wantShared(t, "", "a", 0)
	wantShared(t, "a", "", 0)
	wantShared(t, "a", "a", 1)
	wantShared(t, "a", "b", 0)
	wantShared(t, "rook", "rooks", 4)
	wantShared(t, "rooks", "rook", 4)
	wantShared(t, "rooks", "room", 3)
	// Behind the first byte that differs nothing counts.
	wantShared(t, "axb", "ayb", 1)
	wantShared(t, "xaaa", "yaaa", 0)
	// Bytes, not signs.
	wantShared(t, "é", "è", 1)
	wantShared(t, "\x00\x00", "\x00\xff", 1)
	wantShared(t, "\xff\xfe", "\xff\xff", 1)
	// Texts that no list may have.
	wantShared(t, wide+wide, wide+wide+"v", 32)
	wantShared(t, wide+"v", wide+wide, 16)
	wantShared(t, strings.Repeat("x", 5000)+"y", strings.Repeat("x", 5000)+"z", 5000)
}

func TestI1SharedEach(t *testing.T) {
	for _, a := range words() {
		for _, b := range words() {
			wantShared(t, a, b, alike(a, b))
		}
	}
}

func TestI1Write(t *testing.T) {
	wantWrite(t, nil, "", api.OK)
	wantWrite(t, of(), "", api.OK)
	wantWrite(t, of(""), "\x00\x00", api.OK)
	wantWrite(t, of("", ""), "\x00\x00\x00\x00", api.OK)
	wantWrite(t, of("rook"), "\x00\x04rook", api.OK)
	wantWrite(t, of("rook", "rooks", "room", "wren"), "\x00\x04rook\x04\x01s\x03\x01m\x00\x04wren", api.OK)
	// The same one again has nothing more; a beginning of the one before neither.
	wantWrite(t, of("rook", "rook", "roo", ""), "\x00\x04rook\x04\x00\x03\x00\x00\x00", api.OK)
	// Only the one before counts.
	wantWrite(t, of("rook", "wren", "rook"), "\x00\x04rook\x00\x04wren\x00\x04rook", api.OK)
	wantWrite(t, of("a", "", "a"), "\x00\x01a\x00\x00\x00\x01a", api.OK)
	wantWrite(t, of("\xff\x00", "\xff\x80"), "\x00\x02\xff\x00\x01\x01\x80", api.OK)
	wantWrite(t, of(wide, wide, wide[1:]), "\x00\x10"+wide+"\x10\x00\x0f\x00", api.OK)
	wantWrite(t, make([]string, api.MaxList), strings.Repeat("\x00", 2*api.MaxList), api.OK)
}

func TestI1WriteEach(t *testing.T) {
	for many := range api.MaxList + 1 {
		for _, l := range [][]string{sample(many), rising(many)} {
			wantWrite(t, l, spelt(l), api.OK)
			slices.Reverse(l)
			wantWrite(t, l, spelt(l), api.OK)
		}
	}
	for _, a := range words() {
		for _, b := range words() {
			wantWrite(t, of(a, b), spelt(of(a, b)), api.OK)
		}
	}
}

func TestI1WriteErrors(t *testing.T) {
	for _, many := range []int{api.MaxList + 1, api.MaxList + 2, 5000} {
		wantWrite(t, make([]string, many), "", api.ErrMany)
	}
	for _, long := range of(wide+"w", strings.Repeat("x", 5000)) {
		wantWrite(t, of(long), "", api.ErrMany)
		wantWrite(t, of("a", long), "", api.ErrMany)
		wantWrite(t, of(long, "a"), "", api.ErrMany)
		// What is too long is so though it shares nearly all.
		wantWrite(t, of(long[:16], long), "", api.ErrMany)
		wantWrite(t, append(rising(api.MaxList-1), long), "", api.ErrMany)
		wantWrite(t, append(of(long), rising(api.MaxList)...), "", api.ErrMany)
	}
}

func TestI2Read(t *testing.T) {
	wantRead(t, "", 0, nil, api.OK)
	wantRead(t, "\x00\x00", 1, of(""), api.OK)
	wantRead(t, "\x00\x01a", 1, of("a"), api.OK)
	wantRead(t, "\x00\x01a\x01\x00", 2, of("a", "a"), api.OK)
	wantRead(t, "\x00\x04rook\x04\x01s\x03\x01m\x00\x04wren", 4, of("rook", "rooks", "room", "wren"), api.OK)
	wantRead(t, "\x00\x10"+wide+"\x0f\x01v\x10\x00", 3, of(wide, wide[1:]+"v", wide[1:]+"v"), api.OK)
	wantRead(t, "\x00\x01\xff\x01\x01\x00\x01\x01\x80", 3, of("\xff", "\xff\x00", "\xff\x80"), api.OK)
	wantRead(t, strings.Repeat("\x00", 2*api.MaxList), api.MaxList, make([]string, api.MaxList), api.OK)
}

func TestI2ReadErrors(t *testing.T) {
	for _, c := range []struct {
		s    string
		many int
		e    api.Errno
	}{
		{"\x00\x01a", -1, api.ErrRange},
		{"", -1 << 63, api.ErrRange},
		{"", api.MaxList + 1, api.ErrMany},
		{strings.Repeat("\x00", 2*api.MaxList+2), api.MaxList + 1, api.ErrMany},
		{"\x80\x80", 1<<63 - 1, api.ErrMany},
		// The number of what it shares.
		{"", 1, api.ErrNone},
		{"\x80", 1, api.ErrNone},
		{"\xff\x00\x00\x00\x00\x00\x00\x00", 1, api.ErrNone},
		{"\x80\x00", 1, api.ErrForm},
		{"\x80\x00\x01a", 1, api.ErrForm},
		{"\x80\x00\x80\x00", 1, api.ErrForm},
		// The number of how many more it has: ahead of what is wrong with what it shares.
		{"\x00", 1, api.ErrNone},
		{"\x01", 1, api.ErrNone},
		{"\x11", 1, api.ErrNone},
		{"\x00\x80", 1, api.ErrNone},
		{"\x01\x80", 1, api.ErrNone},
		{"\x00\x80\x01a", 1, api.ErrForm},
		{"\x01\x80\x01a", 1, api.ErrForm},
		// It shares more than the one before has: ahead of too long a text.
		{"\x01\x00", 1, api.ErrRange},
		{"\x01\x05", 1, api.ErrRange},
		{"\x01\x11" + wide + "w", 1, api.ErrRange},
		{"\x01\xff\xff\xff\xff\xff\xff\xff\xff\xff", 1, api.ErrRange},
		{"\xff\xff\xff\xff\xff\xff\xff\xff\xff\x01a", 1, api.ErrRange},
		{"\xff\x80\x00\x00\x00\x00\x00\x00\x00\x01a", 1, api.ErrRange},
		{"\x00\x01a\x02\x00", 2, api.ErrRange},
		{"\x00\x10" + wide + "\x11\x00", 2, api.ErrRange},
		{"\x00\x01a\x00\x00\x01\x00", 3, api.ErrRange},
		// Longer than a text may be: ahead of bytes that are not there.
		{"\x00\x11" + wide + "w", 1, api.ErrMany},
		{"\x00\x11", 1, api.ErrMany},
		{"\x00\xff\xff\xff\xff\xff\xff\xff\xff\xff", 1, api.ErrMany},
		{"\x00\xff\x80\x00\x00\x00\x00\x00\x00\x00", 1, api.ErrMany},
		{"\x00\x10" + wide + "\x10\x01w", 2, api.ErrMany},
		{"\x00\x10" + wide + "\x10\x01", 2, api.ErrMany},
		{"\x00\x10" + wide + "\x01\x10" + wide, 2, api.ErrMany},
		{"\x00\x10" + wide + "\x10\xff\xff\xff\xff\xff\xff\xff\xff\xff", 2, api.ErrMany},
		{"\x00\x10" + wide + "\x10\xff\xff\xff\xff\xff\xff\xff\xff\xf0", 2, api.ErrMany},
		// Bytes that are not all there: ahead of what it shares more.
		{"\x00\x01", 1, api.ErrNone},
		{"\x00\x02a", 1, api.ErrNone},
		{"\x00\x10" + wide[1:], 1, api.ErrNone},
		{"\x00\x01a\x00\x02a", 2, api.ErrNone},
		{"\x00\x01a\x01\x01", 2, api.ErrNone},
		// It shares more than it says.
		{"\x00\x01a\x00\x01a", 2, api.ErrForm},
		{"\x00\x02ab\x00\x02ac", 2, api.ErrForm},
		{"\x00\x02ab\x01\x01b", 2, api.ErrForm},
		{"\x00\x02ab\x01\x02bc", 2, api.ErrForm},
		{"\x00\x10" + wide + "\x00\x10" + wide, 2, api.ErrForm},
		{"\x00\x10" + wide + "\x00\x01w", 2, api.ErrForm},
		// The first text of which something is wrong tells.
		{"\x00\x01a\x00\x01a\x05\x00", 3, api.ErrForm},
		{"\x01\x00\x00\x11", 2, api.ErrRange},
		{"\x00\x11\x01\x00", 2, api.ErrMany},
		{"\x00\x01a\x00\x01a", 3, api.ErrForm},
		// Something is left.
		{"\x00", 0, api.ErrForm},
		{"a", 0, api.ErrForm},
		{"\x00\x00\x00", 1, api.ErrForm},
		{"\x00\x01ab", 1, api.ErrForm},
		{"\x00\x01a\x80", 1, api.ErrForm},
		{strings.Repeat("\x00", 2*api.MaxList+2), api.MaxList, api.ErrForm},
	} {
		wantRead(t, c.s, c.many, nil, c.e)
	}
}

// What was written is read as it was; of fewer texts something is left, and of more
// of them the next one is not there.
func TestI2AsTheyWere(t *testing.T) {
	for many := range api.MaxList + 1 {
		for _, l := range [][]string{sample(many), rising(many)} {
			s, _ := front.Write(l)
			wantRead(t, s, many, l, api.OK)
			if many > 0 {
				wantRead(t, s, many-1, nil, api.ErrForm)
			}
			if many < api.MaxList {
				wantRead(t, s, many+1, nil, api.ErrNone)
			}
		}
	}
}

func TestI2CutShort(t *testing.T) {
	for _, l := range [][]string{sample(api.MaxList), rising(api.MaxList), words()} {
		s, _ := front.Write(l)
		for end := range s {
			wantRead(t, s[:end], len(l), nil, api.ErrNone)
		}
	}
}

// No other text is read than what Write makes of the same list.
func TestI2OnlyWhatIsWritten(t *testing.T) {
	tried := func(s string, many int) bool {
		l, e := front.Read(s, many)
		if e != api.OK {
			return false
		}
		wantWrite(t, l, s, api.OK)
		return true
	}
	found := 0
	signs := "\x00\x01\x02a\x80"
	for size := range 8 {
		b := make([]byte, size)
		for n := range pow(len(signs), size) {
			for i := range b {
				b[i] = signs[n%len(signs)]
				n /= len(signs)
			}
			for many := range 4 {
				if tried(string(b), many) {
					found++
				}
			}
		}
	}
	if found < 100 {
		t.Errorf("just %d texts were read", found)
	}
	s, _ := front.Write(words())
	for i := range s {
		for b := range 256 {
			tried(s[:i]+string([]byte{byte(b)})+s[i+1:], len(words()))
		}
	}
}

// pow: a number so many times by itself.
func pow(n, times int) int {
	p := 1
	for range times {
		p *= n
	}
	return p
}

func TestI3Three(t *testing.T) {
	l := words()
	for _, a := range l {
		for _, b := range l {
			for _, c := range l {
				ab, bc, ac := front.Shared(a, b), front.Shared(b, c), front.Shared(a, c)
				if ac < min(ab, bc) {
					t.Errorf("%q %q %q share %d %d, the outer two %d", a, b, c, ab, bc, ac)
				}
				if a <= b && b <= c && ac != min(ab, bc) {
					t.Errorf("%q %q %q rise and share %d %d, the outer two %d", a, b, c, ab, bc, ac)
				}
			}
		}
	}
}

func TestP1Strange(t *testing.T) {
	strange := [][]string{
		nil, of(""), of("", ""), of("\xff", "\x00"), of(strings.Repeat("\xff", 1<<16)), make([]string, 1000), slices.Repeat(of(wide), 64), slices.Repeat(of("b", "a"), 32),
	}
	for _, l := range strange {
		if s, e := front.Write(l); e != api.OK && s != "" || e == api.OK && s != spelt(l) {
			t.Errorf("Write(%q) = %q %d", l, s, e)
		}
	}
	for _, s := range of("", "\x00", "\xff", "\x80", strings.Repeat("\xff", 9), strings.Repeat("\xff", 1<<16), strings.Repeat("\x00", 1<<16), strings.Repeat("\x01", 1<<16), strings.Repeat("a", 999)) {
		for _, many := range []int{-1 << 63, -1, 0, 1, 2, 63, 64, 65, 1 << 32, 1<<63 - 1} {
			if l, e := front.Read(s, many); e != api.OK && len(l) != 0 || e == api.OK && len(l) != many {
				t.Errorf("Read(%q, %d) = %q %d", s, many, l, e)
			}
		}
	}
}

func TestP2OnlyRead(t *testing.T) {
	l := sample(40)
	was := slices.Clone(l)
	s, _ := front.Write(l[:20])
	if !slices.Equal(l, was) {
		t.Error("a list, or the room behind it, was changed")
	}
	clear(l)
	wantRead(t, s, 20, was[:20], api.OK)
}

func TestP2NewMemory(t *testing.T) {
	for _, l := range [][]string{sample(30), rising(30), of("a")} {
		s := spelt(l)
		got, _ := front.Read(s, len(l))
		again, _ := front.Read(s, len(l))
		clear(got[:cap(got)])
		if !slices.Equal(again, l) {
			t.Error("two answers share memory")
		}
		wantRead(t, s, len(l), l, api.OK)
	}
}

func TestP3SameAgain(t *testing.T) {
	l := sample(60)
	s := spelt(l)
	var all sync.WaitGroup
	for range 8 {
		all.Go(func() {
			for range 100 {
				front.Write(make([]string, api.MaxList+1))
				front.Write(sample(61))
				front.Read(s, 59)
				front.Read("\x00\x01z\x01\x02yx", 2)
				wantWrite(t, l, s, api.OK)
				wantRead(t, s, 60, l, api.OK)
				wantShared(t, "rooks", "room", 3)
			}
		})
	}
	all.Wait()
}

func TestP4LongOnes(t *testing.T) {
	many, long := make([]string, 1<<22), strings.Repeat("x", 1<<24)
	wantShared(t, long+"y", long+"z", 1<<24)
	for _, l := range [][]string{many, of(long), of("a", long)} {
		if s, e := front.Write(l); s != "" || e != api.ErrMany {
			t.Errorf("Write of a long one has error %d", e)
		}
	}
	for _, c := range []struct {
		s    string
		many int
		e    api.Errno
	}{
		{long, 0, api.ErrForm}, {long, 1, api.ErrRange}, {"\x00\x01" + long, 1, api.ErrForm}, {"\x00\xe1\x00\x00\x00" + long, 1, api.ErrMany},
		{strings.Repeat("\x00", 1<<24), 64, api.ErrForm}, {long, 1 << 30, api.ErrMany},
	} {
		if l, e := front.Read(c.s, c.many); len(l) != 0 || e != c.e {
			t.Errorf("Read of %d bytes has error %d, must be %d", len(c.s), e, c.e)
		}
	}
}
