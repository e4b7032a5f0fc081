// Package names tells which strings are names, by the definition of layer 10. Layers that use names do not all depend on that layer.
package names

import "unicodetext/api"

// Valid reports whether s has 1 to MaxName bytes, all of them letters, digits, and _.
func Valid(s string) bool {
	if s == "" || len(s) > api.MaxName {
		return false
	}
	for i := range len(s) {
		if !permitted(s[i]) {
			return false
		}
	}
	return true
}

// permitted reports whether b may be in a name.
func permitted(b byte) bool {
	return 'A' <= b && b <= 'Z' || 'a' <= b && b <= 'z' || '0' <= b && b <= '9' || b == '_'
}
