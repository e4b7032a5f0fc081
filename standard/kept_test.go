package standard

import (
	"reflect"
	"testing"

	"unicodetext/api"
)

// keeperOf returns what keeps the table of a kind.
func keeperOf(kind int) *keeper {
	return map[int]*keeper{api.Graphemes: &graphemeTable, api.Words: &wordTable, api.Sentences: &sentenceTable, api.Lines: &lineTable}[kind]
}

// P32.1, Ways: tables are made once and kept.
func TestTablesAreKept(t *testing.T) {
	for kind := api.Graphemes; kind <= api.Lines; kind++ {
		table := Table(kind)
		if !reflect.DeepEqual(keeperOf(kind).table, table) || !reflect.DeepEqual(kept(kind), table) {
			t.Error(kind)
		}
		table = kept(kind)
		Table(kind)
		if &kept(kind).Classes[0] != &table.Classes[0] {
			t.Error(kind, "was made again")
		}
	}
	if other := kept(api.Lines + 1); !reflect.DeepEqual(other, api.BreakTable{}) {
		t.Error(other)
	}
}

// P32.1: what Table returns is computed from the rules, whatever is kept.
func TestTableDoesNotDependOnWhatIsKept(t *testing.T) {
	for kind := api.Graphemes; kind <= api.Lines; kind++ {
		want := Table(kind)
		k := keeperOf(kind)
		table := k.table
		k.table = api.BreakTable{Classes: []string{"another"}}
		if got := Table(kind); !reflect.DeepEqual(got, want) {
			t.Error(kind)
		}
		k.table = table
		clear(want.Classes)
		if table.Classes[0] == "" {
			t.Error(kind, "shares memory with what is kept")
		}
	}
}
