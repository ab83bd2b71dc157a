package run

import (
	"slices"
	"testing"

	"mute/tree"
)

func TestTableHasEveryOp(t *testing.T) {
	table := operations()
	for op, want := range map[byte]word{'+': -10, '-': -16, '*': -39, '/': -4, '&': 3, '^': -16, '<': 1, '=': 0} {
		if got := table[op](-13, 3); got != want {
			t.Errorf("%c makes %d of -13 and 3, want %d", op, got, want)
		}
	}
	for op := range table {
		if known := slices.Contains([]byte("+-*/&^<="), byte(op)); known != (table[op] != nil) {
			t.Errorf("the table has %q: %v", byte(op), !known)
		}
	}
}

func TestModulo(t *testing.T) {
	for _, c := range []struct{ number, size, want word }{
		{0, 3, 0}, {2, 3, 2}, {3, 3, 0}, {7, 3, 1}, {-1, 3, 2}, {-3, 3, 0}, {-4, 3, 2}, {-77, 1, 0}, {-1 << 63, 3, 1}, {-1 << 63, 6, 4}, {1<<63 - 1, 6, 1},
	} {
		if got := c.number.modulo(c.size); got != c.want {
			t.Errorf("%d modulo %d = %d, want %d", c.number, c.size, got, c.want)
		}
	}
}

// Counters have their words behind the program's memory, and are not told.
func TestCountersAreNotTold(t *testing.T) {
	n := tree.Name{Text: "n", Kind: tree.Variable, Size: 1}
	i := tree.Name{Text: "i", Kind: tree.Counter, Place: 1}
	j := tree.Name{Text: "j", Kind: tree.Counter, Place: 2}
	sum := tree.Operation{Op: '+', Left: tree.Use{Name: n}, Right: tree.Operation{Op: '*', Left: tree.Use{Name: i}, Right: tree.Use{Name: j}}}
	inner := tree.For{Counter: j, Rounds: tree.Number{Value: 9}, Body: []tree.Do{tree.Set{Name: n, Value: sum}}}
	program := tree.Program{Names: []tree.Name{n}, Words: 1, Dos: []tree.Do{tree.For{Counter: i, Rounds: tree.Number{Value: 3}, Body: []tree.Do{inner}}}}
	if got := Program(program, []int{5}); !slices.Equal(got, []int{35}) {
		t.Errorf("Program = %v", got)
	}
}
