package write

import "mute/api"

// Each of these writes the instruction that an Op becomes, so that a table can name it.

func (w *writer) plus(to, left, right int) { w.ofTwo(api.Add, to, left, right) }

func (w *writer) minus(to, left, right int) { w.ofTwo(api.Sub, to, left, right) }

func (w *writer) times(to, left, right int) { w.ofTwo(api.Mul, to, left, right) }

// over is seen, with both of its words: they must be public.
func (w *writer) over(to, left, right int) { w.ofTwo(api.Div, to, left, right) }

func (w *writer) and(to, left, right int) { w.ofTwo(api.And, to, left, right) }

func (w *writer) xor(to, left, right int) { w.ofTwo(api.Xor, to, left, right) }

func (w *writer) less(to, left, right int) { w.ofTwo(api.Less, to, left, right) }

func (w *writer) equal(to, left, right int) { w.ofTwo(api.Equal, to, left, right) }

type instruction func(w *writer, to, left, right int)

// instructions is the table of what each Op becomes, by its byte: as long as there are bytes, so that none lies outside.
func instructions() [256]instruction {
	return [256]instruction{
		'+': (*writer).plus,
		'-': (*writer).minus,
		'*': (*writer).times,
		'/': (*writer).over,
		'&': (*writer).and,
		'^': (*writer).xor,
		'<': (*writer).less,
		'=': (*writer).equal,
	}
}

func (w *writer) ofTwo(op, to, left, right int) {
	w.add(api.Instr{Op: op, A: to, B: left, C: right})
}

func (w *writer) add(instr api.Instr) { w.code = append(w.code, instr) }

// number gives a register that has this word. The caller gives it back, as with all registers that a function of the writer gives.
func (w *writer) number(word int) int {
	register := w.registers.take()
	w.set(register, word)
	return register
}

func (w *writer) set(register, word int) {
	w.add(api.Instr{Op: api.Const, A: register, D: word})
}

// choice: the register to is yes, if question is not 0, else no. What is chosen is not seen.
func (w *writer) choice(to, question, yes, no int) {
	w.add(api.Instr{Op: api.Select, A: to, B: yes, C: question, D: no})
}

// load gives a register that has the word of memory at this place.
func (w *writer) load(place int) int {
	register := w.number(place)
	w.loadFrom(register, register)
	return register
}

func (w *writer) loadFrom(to, place int) {
	w.add(api.Instr{Op: api.Load, A: to, B: place})
}

func (w *writer) store(place, value int) {
	to := w.number(place)
	defer w.registers.give(to)
	w.storeTo(to, value)
}

func (w *writer) storeTo(place, value int) {
	w.add(api.Instr{Op: api.Store, A: place, B: value})
}

// jump tells where it stands: where it goes to is not known yet. Its number is laid in a variable ahead of its use: the language leaves open whether code[jump()] means the code ahead of the call or behind it.
func (w *writer) jump() int {
	w.add(api.Instr{Op: api.Jump})
	return len(w.code) - 1
}

func (w *writer) jumpIfZero(register int) int {
	w.add(api.Instr{Op: api.JumpZero, B: register})
	return len(w.code) - 1
}

// land makes a jump go to what is written next.
func (w *writer) land(jump int) { w.code[jump].D = len(w.code) }

func (w *writer) jumpBack(to int) { w.add(api.Instr{Op: api.Jump, D: to}) }
