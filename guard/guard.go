// Package guard finds what a program may not do with its secrets.
package guard

import "mute/tree"

// First finds the first bracket of a Do or an Expr that may not be, and tells whether there is one.
func First(program tree.Program) (int, bool) {
	var s search
	s.dos(program.Dos, false)
	return s.at, s.found
}

// search looks at each bracket ahead of what stands in it, so in the order of the text: the first one that is noted is the foremost.
type search struct {
	at    int
	found bool
}

func (s *search) note(at int, wrong bool) {
	if wrong && !s.found {
		s.at, s.found = at, true
	}
}

func (s *search) dos(dos []tree.Do, inSecret bool) {
	for _, do := range dos {
		s.do(do, inSecret)
	}
}

func (s *search) do(do tree.Do, inSecret bool) {
	switch do := do.(type) {
	case tree.Set:
		s.note(do.At, tells(do.Name, do.Value, inSecret))
		s.expr(do.Value)
	case tree.Put:
		s.note(do.At, do.Number.Secret() || tells(do.Array, do.Value, inSecret))
		s.expr(do.Number)
		s.expr(do.Value)
	case tree.If:
		s.expr(do.Question)
		inSecret = inSecret || do.Question.Secret()
		s.dos(do.Yes, inSecret)
		s.dos(do.No, inSecret)
	case tree.For:
		s.note(do.At, do.Rounds.Secret())
		s.expr(do.Rounds)
		s.dos(do.Body, inSecret)
	}
}

// tells: a public word that is written tells the value, and also that it was written at all.
func tells(name tree.Name, value tree.Expr, inSecret bool) bool {
	return !name.Secret && (inSecret || value.Secret())
}

func (s *search) expr(expr tree.Expr) {
	switch expr := expr.(type) {
	case tree.Get:
		s.note(expr.At, expr.Number.Secret())
		s.expr(expr.Number)
	case tree.Operation:
		s.note(expr.At, expr.Op == '/' && expr.Secret())
		s.expr(expr.Left)
		s.expr(expr.Right)
	case tree.Choose:
		s.expr(expr.Question)
		s.expr(expr.Yes)
		s.expr(expr.No)
	}
}
