package write

import "mute/tree"

// A jump is seen, and so would tell the answer to a question about a secret. So both sides of such an `if` are done, each under a CONDITION: a word of memory that is not 0 if the side is truly meant. What is done in secret changes a word only if its condition holds, but writes it in any case.

// doBoth asks once, ahead of both sides: the first one may change what the question was reckoned from.
func (w *writer) doBoth(do tree.If) {
	yes := w.words.take()
	defer w.words.give(yes)
	no := w.words.take()
	defer w.words.give(no)
	w.storeConditions(do.Question, yes, no)
	w.dosUnder(yes, do.Yes)
	w.dosUnder(no, do.No)
}

// storeConditions: neither side's condition holds where the one around them does not.
func (w *writer) storeConditions(question tree.Expr, yes, no int) {
	answer := w.expr(question)
	defer w.registers.give(answer)
	around := w.condition()
	defer w.registers.give(around)
	never := w.number(0)
	defer w.registers.give(never)
	side := w.registers.take()
	defer w.registers.give(side)
	w.choice(side, answer, around, never)
	w.store(yes, side)
	w.choice(side, answer, never, around)
	w.store(no, side)
}

// condition gives a register that has the innermost condition, or one that always holds where there is none.
func (w *writer) condition() int {
	if !w.inSecret() {
		return w.number(1)
	}
	return w.load(w.conditions[len(w.conditions)-1])
}

func (w *writer) inSecret() bool { return len(w.conditions) > 0 }

func (w *writer) dosUnder(condition int, dos []tree.Do) {
	w.conditions = append(w.conditions, condition)
	defer w.endCondition()
	w.dos(dos)
}

func (w *writer) endCondition() { w.conditions = w.conditions[:len(w.conditions)-1] }

// change stores a value that a program gives a word, where it is truly meant.
func (w *writer) change(place, value int) {
	if w.inSecret() {
		w.holdBack(place, value)
	}
	w.storeTo(place, value)
}

// holdBack makes the value what the word at the place is already, if the condition does not hold: that it is stored is seen, but not that it is no other.
func (w *writer) holdBack(place, value int) {
	holds := w.condition()
	defer w.registers.give(holds)
	old := w.registers.take()
	defer w.registers.give(old)
	w.loadFrom(old, place)
	w.choice(value, holds, value, old)
}
