// Package values finds the values of the elements of texts for the layers that look at whole texts.
package values

import (
	"unicodetext/api"
	"unicodetext/property"
)

// Names returns the names of the values of all elements, in order.
func Names(p api.Property, text []int) []string {
	// Layer 10 checks the property for each name that it finds, so each code point is looked up only once.
	known := map[int]string{}
	names := make([]string, len(text))
	for i, c := range text {
		name, ok := known[c]
		if !ok {
			name = property.Name(p, c)
			known[c] = name
		}
		names[i] = name
	}
	return names
}
