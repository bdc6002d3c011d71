// Package naming: what columns, and all else that has a name, may be called.
package naming

import "hypostyle/api"

// IsName: is a text 1 to MaxName small letters? (S1)
func IsName(s string) bool {
	if len(s) < 1 || len(s) > api.MaxName {
		return false
	}
	for i := range len(s) {
		if s[i] < 'a' || s[i] > 'z' {
			return false
		}
	}
	return true
}
