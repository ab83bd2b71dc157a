package write

import (
	"go/ast"
	"go/parser"
	"go/token"
	"path/filepath"
	"slices"
	"strings"
	"testing"

	"mute/api"
	"mute/parse"
	"mute/tree"
)

func read(t *testing.T, text string) tree.Program {
	t.Helper()
	program, errno, at := parse.Program(text)
	if errno != api.OK {
		t.Fatalf("%q: %d, %d", text, errno, at)
	}
	return program
}

func TestTableHasEveryOp(t *testing.T) {
	table, want := instructions(), map[byte]int{'+': api.Add, '-': api.Sub, '*': api.Mul, '/': api.Div, '&': api.And, '^': api.Xor, '<': api.Less, '=': api.Equal}
	for op := range table {
		instr, known := want[byte(op)]
		if known != (table[op] != nil) {
			t.Errorf("the table has %q: %v", byte(op), !known)
		}
		if !known {
			continue
		}
		w := &writer{}
		table[op](w, 5, 6, 7)
		if !slices.Equal(w.code, []api.Instr{{Op: instr, A: 5, B: 6, C: 7}}) {
			t.Errorf("%q becomes %v", byte(op), w.code)
		}
	}
}

func TestPoolHandsOutTheLeast(t *testing.T) {
	p := newPool(3, 9)
	for want := 3; want < 9; want++ {
		if got := p.take(); got != want {
			t.Errorf("took %d, want %d", got, want)
		}
	}
	for _, number := range []int{7, 3, 8, 5, 4, 6} {
		p.give(number)
	}
	p.give(p.take())
	for _, want := range []int{3, 4} {
		if got := p.take(); got != want {
			t.Errorf("took %d, want %d", got, want)
		}
	}
	p.give(4)
	for _, want := range []int{4, 5, 6, 7, 8} {
		if got := p.take(); got != want {
			t.Errorf("took %d, want %d", got, want)
		}
	}
	if p.Len() != 0 {
		t.Errorf("%d are left", p.Len())
	}
}

// chooses is one `choose` in another, so that two words wait at each.
func chooses(brackets int) string {
	return "(public n)(set n " + strings.Repeat("(choose n 2 ", brackets) + "n" + strings.Repeat(")", brackets) + ")"
}

func TestAllIsGivenBack(t *testing.T) {
	for _, text := range []string{
		"", "(public n)(set n (+ n 1))", "(array public a 3)(put a (get a 1) (get a 2))", chooses(9),
		"(public n)(for i n (for j 2 (if n ((set n j)) ((set n i)))))", "(public n)(if (choose n 1 2) ((for i n)) ((for i 3 (set n i))))",
		"(secret k)(if k () ())", "(secret k)(if k ((if (choose k 1 k) ((set k 1)) ((for i 2 (set k i))))) ((set k 2)))(set k 3)", "(secret k)(array secret a 2)(for i 2 (if k ((put a i k)) ((if i ((set k 1)) ()))))",
	} {
		program := read(t, text)
		w := newWriter(program)
		w.dos(program.Dos)
		registers, words := newPool(0, api.Registers), newPool(program.Words+api.MaxLoops, api.Memory)
		slices.Sort(*w.registers)
		slices.Sort(*w.words)
		if !slices.Equal(*w.registers, *registers) || !slices.Equal(*w.words, *words) {
			t.Errorf("%q leaves %v and %v", text, *w.registers, *w.words)
		}
		if w.inSecret() {
			t.Errorf("%q leaves the conditions %v", text, w.conditions)
		}
	}
}

func stores(code []api.Instr) int {
	count := 0
	for _, instr := range code {
		if instr.Op == api.Store {
			count++
		}
	}
	return count
}

// Words wait in memory when registers are few, and not before.
func TestWordsThatWait(t *testing.T) {
	for brackets, want := range map[int]int{0: 1, 1: 1, 2: 1, 3: 2, 4: 4, 9: 14} {
		if got := stores(Program(read(t, chooses(brackets)))); got != want {
			t.Errorf("%d chooses in one another store %d words, want %d", brackets, got, want)
		}
	}
}

func TestCodeOfOneSet(t *testing.T) {
	want := []api.Instr{
		{Op: api.Const, A: 0, D: 1}, {Op: api.Load, A: 0, B: 0}, {Op: api.Const, A: 1, D: -7}, {Op: api.Sub, A: 1, B: 0, C: 1},
		{Op: api.Const, A: 0, D: 0}, {Op: api.Store, A: 0, B: 1}, {Op: api.Halt},
	}
	if got := Program(read(t, "(secret k)(public n)(set k (- n -7))")); !slices.Equal(got, want) {
		t.Errorf("code = %v, want %v", got, want)
	}
}

// The jump back goes to where the counter is asked, the other one behind it.
func TestCodeOfOneLoop(t *testing.T) {
	want := []api.Instr{
		{Op: api.Const, A: 0, D: 2}, {Op: api.Const, A: 1, D: api.MaxRounds}, {Op: api.Less, A: 2, B: 0, C: 1}, {Op: api.Select, A: 0, B: 0, C: 2, D: 1},
		{Op: api.Const, A: 3, D: 3}, {Op: api.Store, A: 3, B: 0}, {Op: api.Const, A: 0, D: 0}, {Op: api.Const, A: 1, D: 1}, {Op: api.Store, A: 1, B: 0},
		{Op: api.Const, A: 0, D: 1}, {Op: api.Load, A: 0, B: 0}, {Op: api.Const, A: 1, D: 3}, {Op: api.Load, A: 1, B: 1}, {Op: api.Less, A: 0, B: 0, C: 1}, {Op: api.JumpZero, B: 0, D: 26},
		{Op: api.Const, A: 0, D: 1}, {Op: api.Load, A: 0, B: 0}, {Op: api.Const, A: 1, D: 0}, {Op: api.Store, A: 1, B: 0},
		{Op: api.Const, A: 0, D: 1}, {Op: api.Load, A: 0, B: 0}, {Op: api.Const, A: 1, D: 1}, {Op: api.Add, A: 0, B: 0, C: 1}, {Op: api.Const, A: 2, D: 1}, {Op: api.Store, A: 2, B: 0},
		{Op: api.Jump, D: 9}, {Op: api.Halt},
	}
	if got := Program(read(t, "(public n)(for i 2 (set n i))")); !slices.Equal(got, want) {
		t.Errorf("code = %v, want %v", got, want)
	}
}

// hasCall tells whether a call stands in a piece of source, but of len, which changes nothing.
func hasCall(piece ast.Node) bool {
	found := false
	ast.Inspect(piece, func(node ast.Node) bool {
		if call, ok := node.(*ast.CallExpr); ok {
			name, plain := call.Fun.(*ast.Ident)
			found = found || !plain || name.Name != "len"
		}
		return true
	})
	return found
}

// What is indexed may be read ahead of a call in its index or behind it, as the compiler likes, and the writer's calls write code: so none stands there. That shows in no answer, only in the source.
func TestNoCallInAnIndex(t *testing.T) {
	names, err := filepath.Glob("*.go")
	if err != nil || len(names) < 2 {
		t.Fatalf("sources: %v, %v", names, err)
	}
	files := token.NewFileSet()
	for _, name := range names {
		if strings.HasSuffix(name, "_test.go") {
			continue
		}
		file, err := parser.ParseFile(files, name, nil, 0)
		if err != nil {
			t.Fatal(err)
		}
		ast.Inspect(file, func(node ast.Node) bool {
			if index, ok := node.(*ast.IndexExpr); ok && hasCall(index.Index) {
				t.Errorf("%v: a call in an index", files.Position(index.Pos()))
			}
			return true
		})
	}
}

// An `if` that asks a secret jumps nowhere, and both of its sides write what they may change.
func TestCodeOfOneSecretIf(t *testing.T) {
	want := []api.Instr{
		{Op: api.Const, A: 0, D: 0}, {Op: api.Load, A: 0, B: 0}, {Op: api.Const, A: 1, D: 1}, {Op: api.Const, A: 2, D: 0},
		{Op: api.Select, A: 3, B: 1, C: 0, D: 2}, {Op: api.Const, A: 4, D: 3}, {Op: api.Store, A: 4, B: 3},
		{Op: api.Select, A: 3, B: 2, C: 0, D: 1}, {Op: api.Const, A: 4, D: 4}, {Op: api.Store, A: 4, B: 3},
		{Op: api.Const, A: 0, D: 7}, {Op: api.Const, A: 1, D: 0}, {Op: api.Const, A: 2, D: 3}, {Op: api.Load, A: 2, B: 2}, {Op: api.Load, A: 3, B: 1},
		{Op: api.Select, A: 0, B: 0, C: 2, D: 3}, {Op: api.Store, A: 1, B: 0}, {Op: api.Halt},
	}
	if got := Program(read(t, "(secret k)(if k ((set k 7)) ())")); !slices.Equal(got, want) {
		t.Errorf("code = %v, want %v", got, want)
	}
}

// Only public questions and loops jump.
func TestSecretIfsDoNotJump(t *testing.T) {
	for dos, want := range map[string]int{
		"(if k () ())": 0, "(if k ((set k 1)) ((put a n k)))": 0, "(if (get a n) ((if k ((set k 1)) ())) ((if (choose n k 1) () ((set k 2)))))": 0,
		"(if n () ())": 2, "(if k ((if n ((set k 1)) ((set k 2)))) ())": 2, "(if k () ((for i n (set k 1))))": 2, "(for i n (if k ((set k 1)) ((if n () ()))))": 4,
	} {
		got := 0
		for _, instr := range Program(read(t, "(secret k)(public n)(array secret a 2)"+dos)) {
			if instr.Op == api.Jump || instr.Op == api.JumpZero {
				got++
			}
		}
		if got != want {
			t.Errorf("%q jumps %d times, want %d", dos, got, want)
		}
	}
}
