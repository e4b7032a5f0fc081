package convert

import (
	"slices"

	"unicodetext/api"
	"unicodetext/utf16text"
	"unicodetext/utf8text"
)

const (
	unitSize    = 2 // bytes of a unit of UTF-16
	noCharacter = -1
)

// A codec is an encoding: it knows the forms of characters.
type codec interface {
	step(s string) (int, int, bool) // as Step, where s is not empty
	put(c int) (string, bool)       // as Put
}

// codecOf returns an encoding by its kind; nil if the kind is not known.
func codecOf(e api.Encoding) codec {
	switch e.Kind {
	case api.UTF8:
		return units8{}
	case api.UTF16BE:
		return units16{big: true}
	case api.UTF16LE:
		return units16{}
	case api.Single:
		return single{e.Charset}
	}
	return nil
}

// units8 is UTF-8.
type units8 struct{}

func (units8) step(s string) (int, int, bool) {
	return utf8text.Step(s)
}

func (units8) put(c int) (string, bool) {
	form, fault := utf8text.Encode([]int{c}, api.Fail)
	return form, fault.Errno == api.OK
}

// units16 is UTF-16 with the higher byte of each unit first if big, otherwise the lower one.
type units16 struct{ big bool }

func (u units16) step(s string) (int, int, bool) {
	var units []int
	for at := 0; at+unitSize <= min(len(s), 2*unitSize); at += unitSize {
		units = append(units, u.unit(s[at], s[at+1]))
		// Two units are well-formed together, if the first one alone is not, only if they are a pair.
		if text, fault := utf16text.Decode(units, api.Fail); fault.Errno == api.OK {
			return text[0], at + unitSize, true
		}
	}
	return 0, min(len(s), unitSize), false
}

// unit returns the unit of two bytes. Layer 4 would take a mark for the order of the bytes.
func (u units16) unit(first, second byte) int {
	if u.big {
		return int(first)<<8 | int(second)
	}
	return int(second)<<8 | int(first)
}

func (u units16) put(c int) (string, bool) {
	units, fault := utf16text.Encode([]int{c}, api.Fail)
	if fault.Errno != api.OK {
		return "", false
	}
	form, fault := utf16text.Bytes(units, u.big, false)
	return form, fault.Errno == api.OK
}

// single is an encoding with one byte for each character. Its methods need a charset without an error.
type single struct{ charset api.Charset }

func (e single) step(s string) (int, int, bool) {
	c := e.charset.Codes[s[0]]
	if c == noCharacter {
		return 0, 1, false
	}
	return c, 1, true
}

func (e single) put(c int) (string, bool) {
	b := slices.Index(e.charset.Codes, c)
	if c == noCharacter || b < 0 {
		return "", false
	}
	return string([]byte{byte(b)}), true
}
