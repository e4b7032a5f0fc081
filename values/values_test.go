package values_test

import (
	"math"
	"math/rand"
	"slices"
	"testing"

	"unicodetext/api"
	"unicodetext/property"
	"unicodetext/values"
)

var letters = api.Property{Names: []string{"Other", "Lu", "Ll"}, Spans: []api.Span{{Lo: 0x41, Hi: 0x5A, Value: 1}, {Lo: 0x61, Hi: 0x7A, Value: 2}}}

func TestNames(t *testing.T) {
	invalid := api.Property{Names: []string{"A", "B"}, Spans: []api.Span{{Lo: 0x41, Hi: 0x41, Value: 2}}}
	for _, c := range []struct {
		p    api.Property
		text []int
		want []string
	}{
		{letters, nil, nil},
		{letters, []int{0x41, 0x61, 0x41, 0x40, 0x5B}, []string{"Lu", "Ll", "Lu", "Other", "Other"}},
		{letters, []int{-1, api.MaxCode + 1, math.MinInt, math.MaxInt, 0x7A}, []string{"Other", "Other", "Other", "Other", "Ll"}},
		{invalid, []int{0x41, 0x42, -1}, []string{"Other", "Other", "Other"}},
		{api.Property{}, []int{0}, []string{"Other"}},
		{api.Property{Names: []string{"Only"}}, []int{0, -1}, []string{"Only", "Only"}},
	} {
		given := slices.Clone(c.text)
		if got := values.Names(c.p, c.text); !slices.Equal(got, c.want) || !slices.Equal(c.text, given) {
			t.Error(c.p, c.text, got)
		}
	}
}

func TestNamesAreThoseOfTheProperty(t *testing.T) {
	r := rand.New(rand.NewSource(1))
	for range 300 {
		text := make([]int, r.Intn(30))
		for i := range text {
			text[i] = 0x3E + r.Intn(0x40)
		}
		for i, name := range values.Names(letters, text) {
			if name != property.Name(letters, text[i]) {
				t.Fatal(text, i, name)
			}
		}
	}
}
