package seal_test

import (
	"encoding/binary"
	"hash/adler32"
	"strings"
	"testing"

	"hypostyle/api"
	"hypostyle/seal"
	"hypostyle/vary"
)

// spelt: a body with its length and its sum, as the document tells it.
func spelt(body string) string {
	sum := binary.BigEndian.AppendUint32(nil, adler32.Checksum([]byte(body)))
	return vary.Write(uint64(len(body))) + body + string(sum)
}

// bodies of all sizes at which the length grows, and some between.
func bodies() []string {
	var l []string
	for _, many := range []int{0, 1, 2, 3, 100, 127, 128, 129, 16383, 16384, 70000} {
		for _, s := range []string{"\x00", "a", "\xff", "rook"} {
			l = append(l, strings.Repeat(s, many)[:many])
		}
	}
	return l
}

func wantOpen(t *testing.T, s, body string, size int, e api.Errno) {
	t.Helper()
	if gb, gs, ge := seal.Open(s); gb != body || gs != size || ge != e {
		t.Errorf("Open(%.40x..) = %.40x.. %d %d, must be %.40x.. %d %d", s, gb, gs, ge, body, size, e)
	}
}

func TestQ1Put(t *testing.T) {
	if s := seal.Put("\x01\x00\x00"); s != "\x03\x01\x00\x00\x00\x06\x00\x02" {
		t.Errorf("Put is %x", s)
	}
	if s := seal.Put(""); s != "\x00\x00\x00\x00\x01" {
		t.Errorf("Put of nothing is %x", s)
	}
	for _, body := range bodies() {
		if s := seal.Put(body); s != spelt(body) {
			t.Errorf("Put(%.40x..) = %.40x.., must be %.40x..", body, s, spelt(body))
		}
	}
}

func TestQ2Open(t *testing.T) {
	for _, body := range bodies() {
		s := spelt(body)
		for _, rest := range []string{"", "z", s, strings.Repeat("\xff", 300)} {
			wantOpen(t, s+rest, body, len(s), api.OK)
		}
		for c := range min(len(s), 300) {
			wantOpen(t, s[:c], "", 0, api.ErrNone)
			wantOpen(t, s[:len(s)-1-c], "", 0, api.ErrNone)
		}
		wrong := []byte(s)
		wrong[len(s)-1]++
		wantOpen(t, string(wrong), "", 0, api.ErrSum)
	}
}

func TestQ2OpenErrors(t *testing.T) {
	eight := strings.Repeat("\xff", 8)
	for _, c := range []struct {
		s string
		e api.Errno
	}{
		{"", api.ErrNone},
		{"\x80", api.ErrNone},
		{"\x80\x00\x00\x00\x00\x01", api.ErrForm},
		{"\xff\x00\x00\x00\x00\x00\x00\x00\x00", api.ErrForm},
		{"\x00\x00\x00\x00\x00", api.ErrSum},
		{"\x00\x00\x00\x00\x02", api.ErrSum},
		{"\x00\x01\x00\x00\x00", api.ErrSum},
		{"\x00\xff\xf1\xff\xf2", api.ErrSum}, // 0 and 1 modulo 65521, but other bytes
		{"\x01\x00\x00\x00\x01", api.ErrNone},
		{"\xff" + eight, api.ErrNone},
		{"\xff" + eight + "\x00\x00\x00\x01", api.ErrNone},
		{"\xff\x7f" + eight[1:] + strings.Repeat("\x00", 100), api.ErrNone},
		{"\xff\x80\x00\x00\x00\x00\x00\x00\x00" + strings.Repeat("\x00", 100), api.ErrNone},
		{"\xff" + eight[1:] + "\xfc" + strings.Repeat("\x00", 100), api.ErrNone},
	} {
		wantOpen(t, c.s, "", 0, c.e)
	}
}
