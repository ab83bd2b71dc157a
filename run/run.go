// Package run does what a program means.
package run

import (
	"mute/api"
	"mute/tree"
)

// Program tells the words of a program's memory behind it, when they were those of memory at first. There are as many as the program has, and it has been checked.
func Program(program tree.Program, memory []int) []int {
	r := &runner{words: make([]word, program.Words+api.MaxLoops), operations: operations()}
	for i, value := range memory {
		r.words[i] = word(value)
	}
	r.dos(program.Dos)
	result := make([]int, program.Words)
	for i := range result {
		result[i] = int(r.words[i])
	}
	return result
}

// runner has the words that the program's names have their places in: its memory, and the counters behind it.
type runner struct {
	words      []word
	operations [256]operation
}

func (r *runner) dos(dos []tree.Do) {
	for _, do := range dos {
		r.do(do)
	}
}

func (r *runner) do(do tree.Do) {
	switch do := do.(type) {
	case tree.Set:
		r.words[do.Name.Place] = r.expr(do.Value)
	case tree.Put:
		r.words[r.placeIn(do.Array, do.Number)] = r.expr(do.Value)
	case tree.If:
		if r.expr(do.Question) != 0 {
			r.dos(do.Yes)
		} else {
			r.dos(do.No)
		}
	case tree.For:
		r.loop(do)
	}
}

// loop reckons its rounds ahead of the first one: what the Do's set does not change them.
func (r *runner) loop(do tree.For) {
	rounds := min(r.expr(do.Rounds), api.MaxRounds)
	for i := word(0); i < rounds; i++ {
		r.words[do.Counter.Place] = i
		r.dos(do.Body)
	}
}

func (r *runner) expr(expr tree.Expr) word {
	switch expr := expr.(type) {
	case tree.Number:
		return word(expr.Value)
	case tree.Use:
		return r.words[expr.Name.Place]
	case tree.Get:
		return r.words[r.placeIn(expr.Array, expr.Number)]
	case tree.Operation:
		return r.operations[expr.Op](r.expr(expr.Left), r.expr(expr.Right))
	case tree.Choose:
		return r.choose(expr)
	}
	return 0
}

func (r *runner) choose(expr tree.Choose) word {
	if r.expr(expr.Question) != 0 {
		return r.expr(expr.Yes)
	}
	return r.expr(expr.No)
}

// placeIn is where the word of an array with this number lies.
func (r *runner) placeIn(array tree.Name, number tree.Expr) int {
	return array.Place + int(r.expr(number).modulo(word(array.Size)))
}
