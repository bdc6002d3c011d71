package naming_test

import (
	"strings"
	"testing"

	"hypostyle/api"
	"hypostyle/naming"
)

func TestS1Names(t *testing.T) {
	for size := range 40 {
		for _, letter := range "amz" {
			s := strings.Repeat(string(letter), size)
			if g := naming.IsName(s); g != (size >= 1 && size <= api.MaxName) {
				t.Errorf("IsName(%q) = %v", s, g)
			}
		}
	}
	if naming.IsName(strings.Repeat("a", 1<<24)) {
		t.Error("a long one is a name")
	}
}

func TestS1Letters(t *testing.T) {
	for c := range 256 {
		letter := c >= 'a' && c <= 'z'
		b := string([]byte{byte(c)})
		for _, s := range []string{b, "a" + b, b + "a", "abc" + b + "defghijk"} {
			if g := naming.IsName(s); g != letter {
				t.Errorf("IsName(%q) = %v", s, g)
			}
		}
	}
}
