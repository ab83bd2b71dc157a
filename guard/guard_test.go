package guard

import (
	"testing"

	"mute/tree"
)

var (
	open   = tree.Name{Text: "n", Kind: tree.Variable, Size: 1}
	hidden = tree.Name{Text: "k", Kind: tree.Variable, Size: 1, Secret: true}
	one    = tree.Number{Value: 1}
)

func TestFirstIsForemost(t *testing.T) {
	division := tree.Operation{At: 20, Op: '/', Left: one, Right: tree.Use{Name: hidden}}
	for _, c := range []struct {
		dos   []tree.Do
		at    int
		found bool
	}{
		{nil, 0, false},
		{[]tree.Do{tree.Set{At: 10, Name: hidden, Value: one}}, 0, false},
		{[]tree.Do{tree.Set{At: 10, Name: hidden, Value: division}}, 20, true},
		{[]tree.Do{tree.Set{At: 10, Name: open, Value: division}}, 10, true},
		{[]tree.Do{tree.Set{At: 0, Name: open, Value: tree.Use{Name: hidden}}, tree.Set{At: 10, Name: hidden, Value: division}}, 0, true},
		{[]tree.Do{tree.If{At: 10, Question: division, Yes: []tree.Do{tree.Set{At: 30, Name: open, Value: one}}}}, 20, true},
	} {
		if at, found := First(tree.Program{Dos: c.dos}); at != c.at || found != c.found {
			t.Errorf("First(%+v) = %d, %v, want %d, %v", c.dos, at, found, c.at, c.found)
		}
	}
}

// What follows an `if` about a secret is not in secret any more.
func TestSecretEndsWithItsIf(t *testing.T) {
	set := func(at int) tree.Do { return tree.Set{At: at, Name: open, Value: one} }
	ask := func(yes, no []tree.Do) tree.Do {
		return tree.If{Question: tree.Use{Name: hidden}, Yes: yes, No: no}
	}
	if at, found := First(tree.Program{Dos: []tree.Do{ask(nil, nil), set(9)}}); found {
		t.Errorf("behind the if: found at %d", at)
	}
	deep := ask(nil, []tree.Do{tree.For{Rounds: one, Body: []tree.Do{tree.If{Question: one, No: []tree.Do{set(7)}}}}})
	if at, found := First(tree.Program{Dos: []tree.Do{deep, set(9)}}); !found || at != 7 {
		t.Errorf("within the if: %d, %v", at, found)
	}
}
