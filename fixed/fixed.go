// Package fixed: numbers of as many bytes as who writes them says, the greatest first.
package fixed

// Write: the lowest bytes of a number, so many of them.
func Write(n uint64, size int) string {
	var b []byte
	for i := range size {
		b = append(b, byte(n>>(8*(size-1-i))))
	}
	return string(b)
}

// Read: the number that all bytes of a text are.
func Read(s string) uint64 {
	var n uint64
	for i := range len(s) {
		n = n<<8 | uint64(s[i])
	}
	return n
}
