package write

import "mute/tree"

// enough registers are free whenever an Expr is begun: one for its word, and two more, which a `get` takes to reckon its place, or a `choose` to fetch its other words. Nothing takes more than these without giving way to memory (see keep), so no Expr is too deep.
const enough = 3

// expr reckons an Expr, and gives the register that has its word.
func (w *writer) expr(expr tree.Expr) int {
	switch expr := expr.(type) {
	case tree.Number:
		return w.number(expr.Value)
	case tree.Use:
		return w.load(expr.Name.Place)
	case tree.Get:
		return w.get(expr)
	case tree.Operation:
		return w.operation(expr)
	case tree.Choose:
		return w.choose(expr)
	}
	return w.number(0)
}

func (w *writer) get(expr tree.Get) int {
	place := w.placeIn(expr.Array, expr.Number)
	w.loadFrom(place, place)
	return place
}

func (w *writer) operation(expr tree.Operation) int {
	kept := w.keep(w.expr(expr.Left))
	right := w.expr(expr.Right)
	left := w.fetch(kept)
	defer w.registers.give(left)
	w.instructions[expr.Op](w, right, left, right)
	return right
}

// choose reckons both of its sides, so that nothing of what is done hangs on the question.
func (w *writer) choose(expr tree.Choose) int {
	keptQuestion := w.keep(w.expr(expr.Question))
	keptYes := w.keep(w.expr(expr.Yes))
	no := w.expr(expr.No)
	question := w.fetch(keptQuestion)
	defer w.registers.give(question)
	yes := w.fetch(keptYes)
	defer w.registers.give(yes)
	w.choice(no, question, yes, no)
	return no
}

// placeIn gives a register that has the place of the word of an array with this number.
func (w *writer) placeIn(array tree.Name, expr tree.Expr) int {
	number := w.expr(expr)
	size := w.number(array.Size)
	defer w.registers.give(size)
	w.remainder(number, size)
	// A remainder is below 0, if the number was: one size more makes it above that, and not other in the remainder.
	w.plus(number, number, size)
	w.remainder(number, size)
	w.set(size, array.Place)
	w.plus(number, number, size)
	return number
}

// remainder leaves, of a number, what dividing it by size leaves over. Both are public, so it may be seen.
func (w *writer) remainder(number, size int) {
	part := w.registers.take()
	defer w.registers.give(part)
	w.over(part, number, size)
	w.times(part, part, size)
	w.minus(number, number, part)
}

// waiting is a word that waits until others are reckoned: in its register, or, if there are few, in a word of memory.
type waiting struct {
	register int
	word     int
	inMemory bool
}

// keep takes a register over from its caller, and gives it back at once, if else too few were left for what is reckoned next.
func (w *writer) keep(register int) waiting {
	if w.registers.Len() >= enough {
		return waiting{register: register}
	}
	defer w.registers.give(register)
	word := w.words.take()
	w.store(word, register)
	return waiting{word: word, inMemory: true}
}

// fetch gives a register that has the word that was kept.
func (w *writer) fetch(kept waiting) int {
	if !kept.inMemory {
		return kept.register
	}
	defer w.words.give(kept.word)
	return w.load(kept.word)
}
