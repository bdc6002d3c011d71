package fixed_test

import (
	"encoding/binary"
	"math"
	"testing"

	"hypostyle/fixed"
)

func TestQ1FourBytes(t *testing.T) {
	for _, n := range []uint64{0, 1, 255, 256, 0x01020304, 0xfff0fff0, math.MaxUint32} {
		want := string(binary.BigEndian.AppendUint32(nil, uint32(n)))
		if s := fixed.Write(n, 4); s != want {
			t.Errorf("Write(%d, 4) = %x, must be %x", n, s, want)
		}
		if got := fixed.Read(want); got != n {
			t.Errorf("Read(%x) = %d, must be %d", want, got, n)
		}
	}
}

func TestR2EightBytes(t *testing.T) {
	for i := range uint64(200) {
		for _, n := range []uint64{i, i * 0x9e3779b97f4a7c15, 1 << (i % 64), math.MaxUint64 - i} {
			want := string(binary.BigEndian.AppendUint64(nil, n))
			if s := fixed.Write(n, 8); s != want {
				t.Errorf("Write(%d, 8) = %x, must be %x", n, s, want)
			}
			if got := fixed.Read(want); got != n {
				t.Errorf("Read(%x) = %d, must be %d", want, got, n)
			}
		}
	}
}

// Whatever it is handed: what does not fit is left out, of no bytes there is 0.
func TestP1Strange(t *testing.T) {
	if s := fixed.Write(0x0102030405060708, 2); s != "\x07\x08" {
		t.Errorf("Write of two bytes is %x", s)
	}
	if s := fixed.Write(math.MaxUint64, 0) + fixed.Write(math.MaxUint64, -1); s != "" {
		t.Errorf("Write of no bytes is %x", s)
	}
	if n := fixed.Read(""); n != 0 {
		t.Errorf("Read of no bytes is %d", n)
	}
}
