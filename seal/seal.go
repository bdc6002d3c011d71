// Package seal: bodies, each between its length and its sum: pages are made so, and
// so are heads of chunks and feet of files.
package seal

import (
	"hypostyle/adler"
	"hypostyle/api"
	"hypostyle/fixed"
	"hypostyle/vary"
)

// sumSize: bytes of a sum.
const sumSize = 4

// Put: how many bytes a body has, the body, and its sum.
func Put(body string) string {
	return vary.Write(uint64(len(body))) + body + fixed.Write(uint64(adler.Of(body)), sumSize)
}

// Open: the body with which a text begins, and how many bytes it has with its length
// and its sum. The length is held against what is there before anything is reckoned of
// it, so that nothing runs over.
func Open(s string) (string, int, api.Errno) {
	size, from, e := vary.Read(s)
	if e != api.OK {
		return "", 0, e
	}
	left := len(s) - from - sumSize
	if left < 0 || size > uint64(left) {
		return "", 0, api.ErrNone
	}
	end := from + int(size)
	body, sum := s[from:end], s[end:end+sumSize]
	if fixed.Read(sum) != uint64(adler.Of(body)) {
		return "", 0, api.ErrSum
	}
	return body, end + sumSize, api.OK
}
