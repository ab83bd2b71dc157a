package tree

import "testing"

func TestSecret(t *testing.T) {
	open, hidden := Use{Name{Text: "n"}}, Use{Name{Text: "k", Secret: true}}
	openArray, hiddenArray := Name{Text: "a", Kind: Array, Size: 2}, Name{Text: "s", Kind: Array, Size: 2, Secret: true}
	for _, c := range []struct {
		expr   Expr
		secret bool
	}{
		{Number{1}, false}, {open, false}, {hidden, true},
		{Get{0, openArray, Number{1}}, false}, {Get{0, hiddenArray, Number{1}}, true}, {Get{0, openArray, hidden}, true},
		{Operation{0, '+', open, open}, false}, {Operation{0, '+', hidden, open}, true}, {Operation{0, '*', Number{0}, hidden}, true},
		{Choose{0, open, open, open}, false}, {Choose{0, hidden, open, open}, true}, {Choose{0, open, hidden, open}, true}, {Choose{0, open, open, hidden}, true},
		{Operation{0, '+', open, Choose{0, open, open, Get{0, hiddenArray, open}}}, true},
	} {
		if c.expr.Secret() != c.secret {
			t.Errorf("%v: secret is %v", c.expr, !c.secret)
		}
	}
}

func TestWhereNamesFit(t *testing.T) {
	for _, c := range []struct {
		kind             Kind
		set, read, words bool
	}{
		{Variable, true, true, false},
		{Array, false, false, true},
		{Counter, false, true, false},
	} {
		name := Name{Kind: c.kind}
		if name.CanBeSet() != c.set || name.CanBeRead() != c.read || name.HasWords() != c.words {
			t.Errorf("kind %d: %v, %v, %v", c.kind, name.CanBeSet(), name.CanBeRead(), name.HasWords())
		}
	}
}
