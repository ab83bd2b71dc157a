package mute_test

import (
	"fmt"
	"math"
	"slices"
	"testing"

	"mute/api"
)

// machine is the document's machine. Where it would break, Go's own bounds break, too.
type machine struct {
	registers [api.Registers]int
	memory    [api.Memory]int
	at        int
	seen      []int
}

// play carries code out. What is seen comes in one row: of each instruction its number, and then, if it has such, its words or its place. Why is empty, if it came to Halt.
func play(code []api.Instr, words []int) (m *machine, why string) {
	m = &machine{}
	defer func() {
		if broken := recover(); broken != nil {
			why = fmt.Sprintf("breaks at %d: %v", m.at, broken)
		}
	}()
	copy(m.memory[:], words)
	for range api.MaxSteps {
		if m.step(code[m.at]) {
			return m, ""
		}
	}
	return m, "does not come to Halt"
}

// step tells whether it was Halt.
func (m *machine) step(i api.Instr) bool {
	m.see(m.at)
	m.at++
	r := &m.registers
	switch i.Op {
	case api.Const:
		r[i.A] = i.D
	case api.Add:
		r[i.A] = r[i.B] + r[i.C]
	case api.Sub:
		r[i.A] = r[i.B] - r[i.C]
	case api.Mul:
		r[i.A] = r[i.B] * r[i.C]
	case api.And:
		r[i.A] = r[i.B] & r[i.C]
	case api.Xor:
		r[i.A] = r[i.B] ^ r[i.C]
	case api.Less:
		r[i.A] = oneIf(r[i.B] < r[i.C])
	case api.Equal:
		r[i.A] = oneIf(r[i.B] == r[i.C])
	case api.Div:
		m.see(r[i.B], r[i.C])
		r[i.A] = reckoned("/", r[i.B], r[i.C])
	case api.Select:
		yes, no := r[i.B], r[i.D]
		if r[i.C] == 0 {
			yes = no
		}
		r[i.A] = yes
	case api.Load:
		m.see(r[i.B])
		r[i.A] = m.memory[r[i.B]]
	case api.Store:
		m.see(r[i.A])
		m.memory[r[i.A]] = r[i.B]
	case api.Jump:
		m.at = i.D
	case api.JumpZero:
		if r[i.B] == 0 {
			m.at = i.D
		}
	case api.Halt:
		return true
	default:
		panic("no such instruction")
	}
	return false
}

func (m *machine) see(words ...int) { m.seen = append(m.seen, words...) }

func oneIf(so bool) int {
	if so {
		return 1
	}
	return 0
}

// sound tells whether every instruction, come to or not, names only registers and instructions that there are.
func sound(code []api.Instr) bool {
	for _, i := range code {
		registers := []int{i.A, i.B, i.C}
		switch i.Op {
		case api.Const:
			registers = []int{i.A}
		case api.Select:
			registers = append(registers, i.D)
		case api.Load, api.Store:
			registers = []int{i.A, i.B}
		case api.Jump, api.Halt:
			registers = nil
		case api.JumpZero:
			registers = []int{i.B}
		}
		if i.Op < api.Const || i.Op > api.Halt || slices.ContainsFunc(registers, func(r int) bool { return r < 0 || r >= api.Registers }) {
			return false
		}
		if jumps := i.Op == api.Jump || i.Op == api.JumpZero; jumps && (i.D < 0 || i.D >= len(code)) {
			return false
		}
	}
	return true
}

// The machine that the code is held against must itself be right.
func TestMachine(t *testing.T) {
	two := func(op, left, right int) []api.Instr {
		return []api.Instr{{Op: api.Const, A: 1, D: left}, {Op: api.Const, A: 2, D: right}, {Op: op, A: 3, B: 1, C: 2, D: 7}, {Op: api.Store, A: 0, B: 3}, {Op: api.Halt}}
	}
	for _, c := range []struct{ op, left, right, want int }{
		{api.Add, 3, 4, 7}, {api.Sub, 3, 4, -1}, {api.Mul, 3, 4, 12}, {api.And, 6, 3, 2}, {api.Xor, 6, 3, 5}, {api.Less, 3, 4, 1}, {api.Less, 4, 3, 0}, {api.Equal, 3, 3, 1}, {api.Equal, 3, 4, 0},
		{api.Div, -7, 2, -3}, {api.Div, 7, 0, 0}, {api.Div, math.MinInt, -1, math.MinInt}, {api.Select, 5, 1, 5}, {api.Select, 5, 0, 0}, {api.Load, 0, 9, 0},
	} {
		code := two(c.op, c.left, c.right)
		if c.op == api.Load {
			code[2].B = 2
		}
		if m, why := play(code, []int{99}); why != "" || m.memory[0] != c.want {
			t.Errorf("%v: %d, %q, want %d", code[2], m.memory[0], why, c.want)
		}
	}
	for _, code := range [][]api.Instr{
		nil, {{Op: api.Const}}, {{Op: 0}}, {{Op: 16}}, {{Op: api.Jump, D: 1}}, {{Op: api.Jump, D: -1}}, {{Op: api.Jump}}, {{Op: api.JumpZero, D: 2}, {Op: api.Halt}},
		{{Op: api.Const, A: 8}, {Op: api.Halt}}, {{Op: api.Add, B: -1}, {Op: api.Halt}}, {{Op: api.Const, D: 256}, {Op: api.Load, B: 0}, {Op: api.Halt}}, {{Op: api.Const, D: -1}, {Op: api.Store}, {Op: api.Halt}},
	} {
		if _, why := play(code, nil); why == "" {
			t.Errorf("%v comes to Halt", code)
		}
	}
	m, why := play([]api.Instr{{Op: api.JumpZero, D: 2}, {Op: 0}, {Op: api.Const, A: 1, D: 5}, {Op: api.Load, A: 2, B: 1}, {Op: api.Div, A: 3, B: 2, C: 1}, {Op: api.JumpZero, B: 1}, {Op: api.Store, A: 1, B: 3}, {Op: api.Halt}}, []int{0, 0, 0, 0, 0, 50})
	if want := []int{0, 2, 3, 5, 4, 50, 5, 5, 6, 5, 7}; why != "" || m.memory[5] != 10 || !slices.Equal(m.seen, want) {
		t.Errorf("seen %v, %q, want %v", m.seen, why, want)
	}
}
