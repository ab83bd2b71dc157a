// Package write makes of a program the instructions that do what it means.
package write

import (
	"mute/api"
	"mute/tree"
)

// Program gives the instructions of a program that has been checked, for what it may not do with its secrets, too.
func Program(program tree.Program) []api.Instr {
	w := newWriter(program)
	w.dos(program.Dos)
	w.add(api.Instr{Op: api.Halt})
	return w.code
}

// writer writes instructions one behind another. Between two Do's no register has anything in it: all that lasts is in memory, so what is done between a jump and where it lands does not matter to them.
type writer struct {
	code         []api.Instr
	registers    *pool // that are free
	words        *pool // of the machine's memory, that are free
	instructions [256]instruction
	conditions   []int // words of memory, the innermost last: see secret.go
}

func newWriter(program tree.Program) *writer {
	return &writer{
		registers:    newPool(0, api.Registers),
		words:        newPool(program.Words+api.MaxLoops, api.Memory),
		instructions: instructions(),
	}
}

func (w *writer) dos(dos []tree.Do) {
	for _, do := range dos {
		w.do(do)
	}
}

func (w *writer) do(do tree.Do) {
	switch do := do.(type) {
	case tree.Set:
		w.setVariable(do)
	case tree.Put:
		w.put(do)
	case tree.If:
		w.branch(do)
	case tree.For:
		w.loop(do)
	}
}

func (w *writer) setVariable(do tree.Set) {
	value := w.expr(do.Value)
	defer w.registers.give(value)
	place := w.number(do.Name.Place)
	defer w.registers.give(place)
	w.change(place, value)
}

func (w *writer) put(do tree.Put) {
	kept := w.keep(w.expr(do.Value))
	place := w.placeIn(do.Array, do.Number)
	defer w.registers.give(place)
	value := w.fetch(kept)
	defer w.registers.give(value)
	w.change(place, value)
}

func (w *writer) branch(do tree.If) {
	if do.Question.Secret() {
		w.doBoth(do)
		return
	}
	toNo := w.jumpUnless(do.Question)
	w.dos(do.Yes)
	toEnd := w.jump()
	w.land(toNo)
	w.dos(do.No)
	w.land(toEnd)
}

func (w *writer) jumpUnless(question tree.Expr) int {
	answer := w.expr(question)
	defer w.registers.give(answer)
	return w.jumpIfZero(answer)
}

// loop keeps its rounds in a word of their own: what the Do's set does not change them.
func (w *writer) loop(do tree.For) {
	rounds := w.words.take()
	defer w.words.give(rounds)
	w.storeRounds(rounds, do.Rounds)
	w.storeNumber(do.Counter.Place, 0)
	top := len(w.code)
	toEnd := w.jumpUnlessLess(do.Counter.Place, rounds)
	w.dos(do.Body)
	w.countOn(do.Counter.Place)
	w.jumpBack(top)
	w.land(toEnd)
}

// storeRounds needs no bound below: a counter that begins at 0 is not less than what is below 0.
func (w *writer) storeRounds(place int, expr tree.Expr) {
	rounds := w.expr(expr)
	defer w.registers.give(rounds)
	most := w.number(api.MaxRounds)
	defer w.registers.give(most)
	few := w.registers.take()
	defer w.registers.give(few)
	w.less(few, rounds, most)
	w.choice(rounds, few, rounds, most)
	w.store(place, rounds)
}

func (w *writer) storeNumber(place, word int) {
	value := w.number(word)
	defer w.registers.give(value)
	w.store(place, value)
}

func (w *writer) jumpUnlessLess(left, right int) int {
	first := w.load(left)
	defer w.registers.give(first)
	second := w.load(right)
	defer w.registers.give(second)
	w.less(first, first, second)
	return w.jumpIfZero(first)
}

func (w *writer) countOn(place int) {
	counter := w.load(place)
	defer w.registers.give(counter)
	one := w.number(1)
	defer w.registers.give(one)
	w.plus(counter, counter, one)
	w.store(place, counter)
}
