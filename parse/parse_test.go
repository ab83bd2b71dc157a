package parse

import (
	"reflect"
	"strings"
	"testing"

	"mute/api"
	"mute/tree"
)

func TestTokens(t *testing.T) {
	text := " (set\n\nn1 -7)x)\t y\n"
	want := []token{{"(", 1}, {"set", 2}, {"n1", 7}, {"-7", 10}, {")", 12}, {"x", 13}, {")", 14}, {"\t", 15}, {"y", 17}, {ending, 19}, {ending, 19}}
	from := 0
	for _, w := range want {
		got := scan(text, from)
		if got != w {
			t.Fatalf("scan(%q, %d) = %v, want %v", text, from, got, w)
		}
		from = got.at + len(got.text)
	}
}

func TestTree(t *testing.T) {
	const text = "(secret k)(array public a 4)(if (< k -10) ((set k (choose 1 k 002))) ())(for i (get a 3) (put a i i) (for j 1))"
	k := tree.Name{Text: "k", Kind: tree.Variable, Secret: true, Size: 1}
	a := tree.Name{Text: "a", Kind: tree.Array, Size: 4, Place: 1}
	i := tree.Name{Text: "i", Kind: tree.Counter, Place: 5}
	j := tree.Name{Text: "j", Kind: tree.Counter, Place: 6}
	place := func(of string) int { return strings.Index(text, of) }
	want := tree.Program{
		Names: []tree.Name{k, a},
		Words: 5,
		Dos: []tree.Do{
			tree.If{
				At:       place("(if"),
				Question: tree.Operation{At: place("(<"), Op: '<', Left: tree.Use{Name: k}, Right: tree.Number{Value: -10}},
				Yes: []tree.Do{tree.Set{
					At:    place("(set"),
					Name:  k,
					Value: tree.Choose{At: place("(choose"), Question: tree.Number{Value: 1}, Yes: tree.Use{Name: k}, No: tree.Number{Value: 2}},
				}},
			},
			tree.For{
				At:      place("(for i"),
				Counter: i,
				Rounds:  tree.Get{At: place("(get"), Array: a, Number: tree.Number{Value: 3}},
				Body: []tree.Do{
					tree.Put{At: place("(put"), Array: a, Number: tree.Use{Name: i}, Value: tree.Use{Name: i}},
					tree.For{At: place("(for j"), Counter: j, Rounds: tree.Number{Value: 1}},
				},
			},
		},
	}
	got, errno, at := Program(text)
	if errno != api.OK || at != 0 || !reflect.DeepEqual(got, want) {
		t.Errorf("Program(%q) = %+v, %d, %d\nwant %+v", text, got, errno, at, want)
	}
}

func TestNoTreeWithAnError(t *testing.T) {
	for _, text := range []string{"(public n)(set n 1", "(public n)(set m 1)", "(public n)(public n)", "(public n))"} {
		got, errno, _ := Program(text)
		if errno == api.OK || !reflect.DeepEqual(got, tree.Program{}) {
			t.Errorf("Program(%q) = %+v, %d", text, got, errno)
		}
	}
}
