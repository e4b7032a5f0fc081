package names_test

import (
	"strings"
	"testing"

	"unicodetext/names"
)

func TestValid(t *testing.T) {
	for s, want := range map[string]bool{
		"a": true, "Z": true, "0": true, "_": true, "Old_Italic": true, "L1": true, "9a": true,
		strings.Repeat("x", 32): true, strings.Repeat("x", 33): false,
		"": false, " ": false, "a b": false, "a-b": false, "a\n": false, "é": false, "a\x80": false, "a\x00": false,
	} {
		if got := names.Valid(s); got != want {
			t.Errorf("%q: %v", s, got)
		}
	}
	for b := range 256 {
		want := strings.ContainsRune("0123456789ABCDEFGHIJKLMNOPQRSTUVWXYZ_abcdefghijklmnopqrstuvwxyz", rune(b))
		if got := names.Valid(string([]byte{'a', byte(b)})); got != want {
			t.Error(b, got)
		}
	}
}
