package vary_test

import (
	"cmp"
	"slices"
	"strconv"
	"strings"
	"sync"
	"testing"

	"hypostyle/api"
	"hypostyle/vary"
)

// edges: numbers around each power of two, where forms grow, and some between.
func edges() []uint64 {
	l := []uint64{0, 1, 2, 100, 200, 300, 1000, 123456789, 0x0102030405060708, 0xf1e2d3c4b5a69788, 1<<64 - 1}
	for i := range 64 {
		p := uint64(1) << i
		l = append(l, p-1, p, p+1, p|p>>1, 3*p)
	}
	slices.Sort(l)
	return slices.Compact(l)
}

// spelt: the form of a number as the document tells it, reckoned in signs 0 and 1.
func spelt(n uint64) string {
	digits := strconv.FormatUint(n, 2)
	if len(digits) > 56 {
		return bytesOf("11111111" + strings.Repeat("0", 64-len(digits)) + digits)
	}
	k := (len(digits) + 6) / 7
	return bytesOf(strings.Repeat("1", k-1) + "0" + strings.Repeat("0", 7*k-len(digits)) + digits)
}

func bytesOf(digits string) string {
	var out []byte
	for ; digits != ""; digits = digits[8:] {
		b, err := strconv.ParseUint(digits[:8], 2, 8)
		if err != nil {
			panic(err)
		}
		out = append(out, byte(b))
	}
	return string(out)
}

func wantRead(t *testing.T, s string, n uint64, k int, e api.Errno) {
	t.Helper()
	if gn, gk, ge := vary.Read(s); gn != n || gk != k || ge != e {
		t.Errorf("Read(%x) = %d %d %d, must be %d %d %d", s, gn, gk, ge, n, k, e)
	}
}

func wantReadAll(t *testing.T, s string, l []uint64, e api.Errno) {
	t.Helper()
	if gl, ge := vary.ReadAll(s); !slices.Equal(gl, l) || ge != e {
		t.Errorf("ReadAll(%x) = %d %d, must be %d %d", s, gl, ge, l, e)
	}
}

func TestA1Write(t *testing.T) {
	for _, c := range []struct {
		n    uint64
		want string
	}{
		{0, "\x00"},
		{127, "\x7f"},
		{128, "\x80\x80"},
		{1<<14 - 1, "\xbf\xff"},
		{1 << 14, "\xc0\x40\x00"},
		{1<<49 - 1, "\xfd\xff\xff\xff\xff\xff\xff"},
		{1 << 49, "\xfe\x02\x00\x00\x00\x00\x00\x00"},
		{1<<56 - 1, "\xfe\xff\xff\xff\xff\xff\xff\xff"},
		{1 << 56, "\xff\x01\x00\x00\x00\x00\x00\x00\x00"},
		{1<<64 - 1, "\xff\xff\xff\xff\xff\xff\xff\xff\xff"},
	} {
		if got := vary.Write(c.n); got != c.want {
			t.Errorf("Write(%d) = %x, must be %x", c.n, got, c.want)
		}
	}
	for _, n := range edges() {
		if got := vary.Write(n); got != spelt(n) {
			t.Errorf("Write(%d) = %x, must be %x", n, got, spelt(n))
		}
	}
}

func TestA1Read(t *testing.T) {
	for _, n := range edges() {
		s := spelt(n)
		for _, more := range []string{"", "\x00", "\xff", "\x80\x80\x80\x80\x80\x80\x80\x80\x80"} {
			wantRead(t, s+more, n, len(s), api.OK)
		}
	}
}

func TestA1ReadTooShort(t *testing.T) {
	wantRead(t, "", 0, 0, api.ErrNone)
	for _, n := range edges() {
		s := spelt(n)
		for c := range len(s) {
			wantRead(t, s[:c], 0, 0, api.ErrNone)
		}
	}
}

func TestA1ReadShorterForm(t *testing.T) {
	for k := 2; k <= 9; k++ {
		limit := uint64(1) << (7 * (k - 1)) // the least number that needs k bytes
		for _, n := range []uint64{0, 1, limit >> 1, limit - 1} {
			digits := strconv.FormatUint(n, 2)
			form := strings.Repeat("1", k-1) + strings.Repeat("0", 7*k+1-len(digits)) + digits
			wantRead(t, bytesOf(form), 0, 0, api.ErrForm)
			wantRead(t, bytesOf(form)+"\x07", 0, 0, api.ErrForm)
		}
	}
}

// Of a text that is too short and could only be a longer form, ErrNone is named first.
func TestA1ReadNoneAheadOfForm(t *testing.T) {
	for _, s := range []string{"\x80", "\xc0\x00", "\xfe\x00\x00\x00\x00\x00\x00", "\xff\x00\x00\x00\x00\x00\x00\x00"} {
		wantRead(t, s, 0, 0, api.ErrNone)
	}
}

// Each text of two bytes is read as the number that has its beginning as its form, or not at all.
func TestA1ReadTwoBytes(t *testing.T) {
	forms := map[string]uint64{}
	for n := range uint64(1 << 14) {
		forms[spelt(n)] = n
	}
	for i := range 1 << 16 {
		s := string([]byte{byte(i >> 8), byte(i)})
		n1, one := forms[s[:1]]
		n2, two := forms[s]
		switch {
		case one:
			wantRead(t, s, n1, 1, api.OK)
		case two:
			wantRead(t, s, n2, 2, api.OK)
		case s[0] < 0xc0:
			wantRead(t, s, 0, 0, api.ErrForm)
		default:
			wantRead(t, s, 0, 0, api.ErrNone)
		}
	}
}

func TestA2All(t *testing.T) {
	nums := edges()
	for _, l := range [][]uint64{nil, {}, {0}, {0, 0}, {127, 128}, {1<<64 - 1, 0, 1 << 56}, nums} {
		want := ""
		for _, n := range l {
			want += spelt(n)
		}
		if got := vary.All(l); got != want {
			t.Errorf("All(%d) = %x, must be %x", l, got, want)
		}
		wantReadAll(t, want, l, api.OK)
	}
}

func TestA2ReadAllErrors(t *testing.T) {
	good := vary.All([]uint64{5, 128, 1 << 60})
	none, form := "\x80", "\x80\x00"
	wantReadAll(t, none, nil, api.ErrNone)
	wantReadAll(t, form, nil, api.ErrForm)
	wantReadAll(t, good+none, nil, api.ErrNone)
	wantReadAll(t, good+form, nil, api.ErrForm)
	wantReadAll(t, form+good, nil, api.ErrForm)
	wantReadAll(t, good+form+none, nil, api.ErrForm)
	wantReadAll(t, form+good+none, nil, api.ErrForm)
	wantReadAll(t, good+"\xff\x00", nil, api.ErrNone)
}

func TestA3NumbersInOrder(t *testing.T) {
	nums := edges()
	for _, a := range nums {
		for _, b := range nums {
			if got := cmp.Compare(vary.Write(a), vary.Write(b)); got != cmp.Compare(a, b) {
				t.Errorf("the bytes of %d and %d stand as %d", a, b, got)
			}
		}
	}
}

func TestA3ListsInOrder(t *testing.T) {
	var lists [][]uint64
	some := []uint64{0, 1, 127, 128, 1<<14 - 1, 1 << 14, 1<<56 - 1, 1 << 56, 1<<64 - 1}
	lists = append(lists, nil)
	for _, a := range some {
		lists = append(lists, []uint64{a})
		for _, b := range some {
			lists = append(lists, []uint64{a, b}, []uint64{a, b, 0}, []uint64{a, b, 128})
		}
	}
	for _, a := range lists {
		for _, b := range lists {
			if got := cmp.Compare(vary.All(a), vary.All(b)); got != slices.Compare(a, b) {
				t.Errorf("the bytes of %d and %d stand as %d", a, b, got)
			}
		}
	}
}

// strangeTexts: of every first byte, of every length up to the longest form and more, of several fillings.
func strangeTexts() []string {
	var l []string
	for first := range 256 {
		for size := range 12 {
			for _, fill := range []byte{0, 1, 0x7f, 0x80, 0xff} {
				l = append(l, string([]byte{byte(first)})+strings.Repeat(string([]byte{fill}), size))
			}
		}
	}
	return l
}

func TestP1ZeroWithAnError(t *testing.T) {
	for _, s := range strangeTexts() {
		n, k, e := vary.Read(s)
		if e != api.OK && (n != 0 || k != 0) {
			t.Errorf("Read(%x) = %d %d with error %d", s, n, k, e)
		}
		if e == api.OK && vary.Write(n) != s[:k] {
			t.Errorf("Read(%x) = %d %d, of another form", s, n, k)
		}
		l, e := vary.ReadAll(s)
		if e != api.OK && len(l) != 0 {
			t.Errorf("ReadAll(%x) = %d with error %d", s, l, e)
		}
		if e == api.OK && vary.All(l) != s {
			t.Errorf("ReadAll(%x) = %d, of other forms", s, l)
		}
	}
}

func TestP2OnlyRead(t *testing.T) {
	room := edges()
	was := slices.Clone(room)
	s := vary.All(room[:7])
	if !slices.Equal(room, was) {
		t.Error("All changed its list, or the room behind it")
	}
	room[0] = 99
	if s != vary.All(was[:7]) {
		t.Error("a change of the list is seen in what All answered")
	}
}

func TestP2NewMemory(t *testing.T) {
	s := vary.All([]uint64{1, 2, 3})
	a, _ := vary.ReadAll(s)
	b, _ := vary.ReadAll(s)
	clear(a[:cap(a)])
	if !slices.Equal(b, []uint64{1, 2, 3}) {
		t.Error("two answers of ReadAll share memory")
	}
	wantReadAll(t, s, []uint64{1, 2, 3}, api.OK)
}

func TestP3SameAgain(t *testing.T) {
	nums := edges()
	text := vary.All(nums)
	var all sync.WaitGroup
	for range 8 {
		all.Go(func() {
			for _, n := range nums {
				vary.Read("\x80\x00")
				vary.ReadAll(text + "\x80")
				wantRead(t, vary.Write(n), n, len(spelt(n)), api.OK)
			}
			wantReadAll(t, text, nums, api.OK)
		})
	}
	all.Wait()
}

// A call that went along what is left anew for each number would not end here in any time.
func TestP4LongTexts(t *testing.T) {
	l := make([]uint64, 1<<21)
	for i := range l {
		l[i] = uint64(i) << (i % 44)
	}
	got, e := vary.ReadAll(vary.All(l))
	if e != api.OK || !slices.Equal(got, l) {
		t.Errorf("%d numbers of %d are read, with error %d", len(got), len(l), e)
	}
	if got, e := vary.ReadAll(vary.All(l) + "\x80"); e != api.ErrNone || len(got) != 0 {
		t.Errorf("%d numbers of a damaged text are read, with error %d", len(got), e)
	}
}
