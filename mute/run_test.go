package mute_test

import (
	"fmt"
	"math"
	"math/big"
	"slices"
	"strings"
	"testing"

	"mute/api"
	"mute/mute"
)

// edgeWords are words at which something turns: 0, the bounds of a loop and of an array, those at which words wrap round.
var edgeWords = []int{
	0, 1, -1, 2, -2, 3, -3, 4, 5, -5, 6, -6, 7, -7, 12, 13, -13, 1000, -999999999, 999999999,
	1 << 31, -1 << 31, 1<<32 - 1, 1 << 32, 3037000500, -3037000500, 1 << 62, -1 << 62, math.MaxInt - 1, math.MaxInt, math.MinInt, math.MinInt + 1,
}

// expectRun holds what a program means against what Run tells, and against what its code does, too.
func expectRun(t *testing.T, text string, memory, want []int) {
	t.Helper()
	if words, errno := mute.Run(text, memory); errno != api.OK || !slices.Equal(words, want) {
		t.Errorf("P5: Run(%.160q, %v) = %v, %d, want %v", text, memory, words, errno, want)
	}
	expectCode(t, text, compiled(t, text), memory, want)
}

func TestRunExamples(t *testing.T) {
	expectRun(t, "(secret k) (public n) (set k (+ k n))", []int{5, 7}, []int{12, 7})
	const two = "(secret k) (array secret a 4) (if (< k 10) ((put a 1 k)) ((put a 2 k)))"
	expectRun(t, two, []int{3, 0, 0, 0, 0}, []int{3, 0, 3, 0, 0})
	expectRun(t, two, []int{30, 0, 0, 0, 0}, []int{30, 0, 0, 30, 0})
	expectRun(t, "(array public a 3) (for i 9 (put a i (+ (get a (- i 1)) 1)))", []int{0, 0, 0}, []int{4, 5, 3})
}

func TestRunOfNothing(t *testing.T) {
	expectRun(t, "", nil, nil)
	expectRun(t, " \n", []int{}, nil)
	expectRun(t, "(for i 3)(if 1 () ())", nil, nil)
	for _, text := range []string{"", "(for i 3 (for j i))(if 1 () ((if 0 () ())))"} {
		expectRun(t, eightNames+text, edgeWords[:13], edgeWords[:13])
	}
}

// wrapped is the word that a number of any size wraps round to.
func wrapped(number *big.Int) int {
	return int(new(big.Int).And(number, new(big.Int).SetUint64(math.MaxUint64)).Uint64())
}

// reckoned says by numbers of any size what an Op must make of two words.
func reckoned(op string, a, b int) int {
	left, right, result := big.NewInt(int64(a)), big.NewInt(int64(b)), new(big.Int)
	switch op {
	case "+":
		result.Add(left, right)
	case "-":
		result.Sub(left, right)
	case "*":
		result.Mul(left, right)
	case "/":
		if b != 0 {
			result.Quo(left, right)
		}
	case "&":
		result.And(left, right)
	case "^":
		result.Xor(left, right)
	case "<":
		if left.Cmp(right) < 0 {
			result.SetInt64(1)
		}
	case "=":
		if left.Cmp(right) == 0 {
			result.SetInt64(1)
		}
	}
	return wrapped(result)
}

func TestEveryOp(t *testing.T) {
	for _, op := range strings.Fields("+ - * / & ^ < =") {
		for _, a := range edgeWords {
			for _, b := range edgeWords {
				want := reckoned(op, a, b)
				expectRun(t, "(public a)(public b)(public c)(set c ("+op+" a b))", []int{a, b, 77}, []int{a, b, want})
				if op != "/" {
					expectRun(t, "(secret a)(secret b)(set a ("+op+" a b))", []int{a, b}, []int{want, b})
				}
			}
		}
	}
}

// The same by hand, where the document names an edge.
func TestEdgesOfOps(t *testing.T) {
	for _, c := range []struct {
		op         string
		a, b, want int
	}{
		{"+", math.MaxInt, 1, math.MinInt}, {"+", math.MinInt, -1, math.MaxInt}, {"+", math.MinInt, math.MinInt, 0},
		{"-", math.MinInt, 1, math.MaxInt}, {"-", 0, math.MinInt, math.MinInt}, {"-", math.MaxInt, -1, math.MinInt},
		{"*", 1 << 32, 1 << 32, 0}, {"*", math.MinInt, -1, math.MinInt}, {"*", math.MaxInt, 2, -2}, {"*", 3037000500, 3037000500, -9223372036709301616},
		{"/", 7, 2, 3}, {"/", -7, 2, -3}, {"/", 7, -2, -3}, {"/", -7, -2, 3}, {"/", -1, 2, 0}, {"/", 1, math.MinInt, 0},
		{"/", 0, 0, 0}, {"/", 7, 0, 0}, {"/", math.MinInt, 0, 0}, {"/", math.MinInt, -1, math.MinInt}, {"/", math.MaxInt, -1, -math.MaxInt},
		{"&", 12, 10, 8}, {"&", -1, math.MinInt, math.MinInt}, {"&", -8, 13, 8}, {"^", 12, 10, 6}, {"^", -1, 5, -6}, {"^", -1, math.MinInt, math.MaxInt},
		{"<", 1, 2, 1}, {"<", 2, 1, 0}, {"<", 2, 2, 0}, {"<", -1, 0, 1}, {"<", math.MinInt, math.MaxInt, 1}, {"<", math.MaxInt, math.MinInt, 0},
		{"=", 2, 2, 1}, {"=", 2, -2, 0}, {"=", math.MinInt, math.MinInt, 1}, {"=", 1 << 32, 0, 0},
	} {
		expectRun(t, "(public a)(public b)(set a ("+c.op+" a b))", []int{c.a, c.b}, []int{c.want, c.b})
		expectRun(t, "(public a)(public b)(set a ("+c.op+" b a))", []int{c.b, c.a}, []int{c.want, c.a})
	}
}

func TestNumbers(t *testing.T) {
	for text, value := range map[string]int{
		"0": 0, "-0": 0, "7": 7, "007": 7, "000000000": 0, "-000000012": -12, "010": 10, "999999999": 999999999, "-999999999": -999999999,
	} {
		expectRun(t, "(public n)(set n "+text+")", []int{5}, []int{value})
		expectRun(t, "(secret k)(set k (- k "+text+"))", []int{5}, []int{5 - value})
	}
}

func TestSetsInTheirOrder(t *testing.T) {
	const ab = "(public a)(public b)"
	expectRun(t, ab+"(set a -5)(set b (- a 1))", []int{0, 0}, []int{-5, -6})
	expectRun(t, ab+"(set a b)(set b a)", []int{1, 2}, []int{2, 2})
	expectRun(t, ab+"(set b a)(set a b)", []int{1, 2}, []int{1, 1})
	expectRun(t, ab+"(set a (+ a b))(set b (- a b))(set a (- a b))", []int{math.MaxInt, 9}, []int{9, math.MaxInt})
	expectRun(t, ab+"(set a a)", []int{3, 4}, []int{3, 4})
	expectRun(t, ab+"(set a (- (* (+ a 1) (+ b 1)) (/ b (- a 1))))", []int{3, 8}, []int{32, 8})
}

// Each name has its own words, in the order of the Decls.
func TestPlacesOfNames(t *testing.T) {
	const names = "(public n)(array secret a 6)(secret k)(array public b 1)(array public c 3)(secret l)"
	memory := []int{10, 20, 21, 22, 23, 24, 25, 30, 40, 50, 51, 52, 60}
	for dos, place := range map[string]int{
		"(set n -1)": 0, "(put a 0 -1)": 1, "(put a 3 -1)": 4, "(put a 5 -1)": 6, "(set k -1)": 7, "(put b 0 -1)": 8, "(put b 1 -1)": 8,
		"(put c 0 -1)": 9, "(put c 2 -1)": 11, "(put c -1 -1)": 11, "(put c 3 -1)": 9, "(set l -1)": 12, "(for i 1 (for j 1 (set l -1)))": 12,
	} {
		want := slices.Clone(memory)
		want[place] = -1
		expectRun(t, names+dos, memory, want)
	}
	for expr, place := range map[string]int{"n": 0, "(get a 0)": 1, "(get a 5)": 6, "k": 7, "(get b 0)": 8, "(get c 0)": 9, "(get c 2)": 11} {
		want := slices.Clone(memory)
		want[12] = memory[place]
		expectRun(t, names+"(set l "+expr+")", memory, want)
	}
}

// A number of a word below 0, or above the size, goes round, and never beside the array.
func TestNumbersOfAnArraysWords(t *testing.T) {
	for size := 1; size <= api.MaxArray; size++ {
		names := fmt.Sprintf("(secret f)(array secret a %d)(secret g)(public n)", size)
		for _, n := range edgeWords {
			memory := slices.Concat([]int{91}, []int{10, 11, 12, 13, 14, 15}[:size], []int{92, n})
			place := 1 + int(new(big.Int).Mod(big.NewInt(int64(n)), big.NewInt(int64(size))).Int64())
			want := slices.Clone(memory)
			want[place] = -4
			expectRun(t, names+"(put a n -4)", memory, want)
			want = slices.Clone(memory)
			want[0] = memory[place]
			expectRun(t, names+"(set f (get a n))", memory, want)
		}
	}
}

func TestPutAndGet(t *testing.T) {
	expectRun(t, "(array public a 3)(public n)(put a n 5)", []int{1, 2, 3, -1}, []int{1, 2, 5, -1})
	expectRun(t, "(array public a 3)(public n)(put a n 5)", []int{1, 2, 3, math.MinInt}, []int{1, 5, 3, math.MinInt})
	expectRun(t, "(array public a 3)(public n)(set n (get a n))", []int{1, 2, 3, math.MinInt}, []int{1, 2, 3, 2})
	expectRun(t, "(public n)(array public a 2)(put a (get a n) (+ (get a n) 1))", []int{0, 1, 8}, []int{0, 1, 2})
	expectRun(t, "(array public a 4)(put a (get a (get a 0)) (get a (get a 1)))", []int{1, 2, 3, 4}, []int{1, 2, 3, 4})
	expectRun(t, "(array public a 4)(put a 0 (get a 1))(put a 1 (get a 0))", []int{1, 2, 3, 4}, []int{2, 2, 3, 4})
	expectRun(t, "(array public p 2)(array secret s 2)(put s (get p 1) (get p 0))(put p 0 9)", []int{5, 1, 0, 0}, []int{9, 1, 0, 5})
}

func TestIf(t *testing.T) {
	for _, kind := range []string{"public", "secret"} {
		names := "(" + kind + " a)(secret b)(secret c)"
		for _, a := range edgeWords {
			want := []int{a, 1, 7}
			if a == 0 {
				want = []int{a, 7, 2}
			}
			expectRun(t, names+"(if a ((set b 1)) ((set c 2)))", []int{a, 7, 7}, want)
		}
		expectRun(t, names+"(if a () ((set b 2)))", []int{3, 5, 6}, []int{3, 5, 6})
		expectRun(t, names+"(if a ((set b 2)) ())", []int{0, 5, 6}, []int{0, 5, 6})
		expectRun(t, names+"(if a ((set b a)(set c (+ b 1))) ())", []int{4, 0, 0}, []int{4, 4, 5})
		expectRun(t, names+"(if (< a 5) ((if (< a 3) ((set b 1)) ((set b 2)))) ((if (< a 7) ((set b 3)) ((set b 4)))))(set c b)", []int{6, 0, 0}, []int{6, 3, 3})
	}
	// The question is asked once, ahead of what the answer changes.
	const ab = "(secret a)(secret b)"
	expectRun(t, ab+"(if a ((set a 0)(set b 1)) ((set b 2)))", []int{-1, 0}, []int{0, 1})
	expectRun(t, ab+"(if a ((set b 1)) ((set a 9)(set b 2)))", []int{0, 0}, []int{9, 2})
	expectRun(t, ab+"(if a ((set b 1)(set a 0)) ((set b 2)))(if a ((set b 3)) ((set a 9)))", []int{-1, 0}, []int{9, 1})
}

func TestChoose(t *testing.T) {
	for _, kind := range []string{"public", "secret"} {
		for _, a := range edgeWords {
			want := 5
			if a == 0 {
				want = 6
			}
			expectRun(t, "("+kind+" a)(secret b)(set b (choose a 5 6))", []int{a, 0}, []int{a, want})
		}
	}
	expectRun(t, "(public a)(set a (choose (< a 3) (choose a 10 20) (choose (= a 3) 30 40)))", []int{0}, []int{20})
	expectRun(t, "(public a)(set a (choose (< a 3) (choose a 10 20) (choose (= a 3) 30 40)))", []int{3}, []int{30})
	expectRun(t, "(public a)(set a (choose (< a 3) (choose a 10 20) (choose (= a 3) 30 40)))", []int{4}, []int{40})
	expectRun(t, "(public a)(set a (choose a a (/ 1 a)))", []int{0}, []int{0})
}

func TestRoundsOfFor(t *testing.T) {
	for _, n := range edgeWords {
		rounds := min(max(n, 0), api.MaxRounds)
		expectRun(t, "(public n)(public c)(for i n (set c (+ c 1)))", []int{n, 100}, []int{n, 100 + rounds})
		expectRun(t, "(public n)(secret k)(secret c)(if k ((for i n (set c (+ (* c 10) (+ i 1))))) ())", []int{n, 1, 0}, []int{n, 1, []int{0, 1, 12, 123, 1234, 12345}[rounds]})
	}
	expectRun(t, "(public c)(for i 0 (set c 1))(for i -1 (set c 2))(for i -999999999 (set c 3))", []int{9}, []int{9})
	expectRun(t, "(public c)(for i 5 (set c (+ c 1)))(for i 6 (set c (+ c 1)))(for i 999999999 (set c (+ c 1)))", []int{0}, []int{15})
	// The rounds are reckoned once.
	expectRun(t, "(public n)(public c)(for i n (set n 1)(set c (+ c 1)))", []int{3, 0}, []int{1, 3})
	expectRun(t, "(public n)(public c)(for i n (set n 5)(set c (+ c 1)))", []int{2, 0}, []int{5, 2})
	expectRun(t, "(public n)(public c)(for i (- n c) (set c (+ c 1)))", []int{4, 0}, []int{4, 4})
}

func TestCounters(t *testing.T) {
	expectRun(t, "(array public a 6)(for i 5 (put a i i))", []int{9, 9, 9, 9, 9, 9}, []int{0, 1, 2, 3, 4, 9})
	expectRun(t, "(public a)(public b)(for i 2 (set a i))(for i 3 (set b i))", []int{7, 7}, []int{1, 2})
	expectRun(t, "(public a)(public b)(for i 5 (for j i (set b (+ b 1)))(set a (+ a i)))", []int{0, 0}, []int{10, 10})
	expectRun(t, "(public a)(for i 3 (for j 4 (set a (+ (* a 3) (- (* i 2) j)))))", []int{0}, []int{nestedSum()})
	// A loop's own counter stays what it is behind a loop in it, and two of those in one another do not meet.
	expectRun(t, "(array public a 3)(for i 3 (for j 5)(put a i i))", []int{9, 9, 9}, []int{0, 1, 2})
	expectRun(t, "(array public a 4)(for i 2 (for j 2 (put a (+ (* 2 i) j) (+ (* 10 i) j)))(for k 2 (put a k (+ k (get a k)))))", []int{9, 9, 9, 9}, []int{0, 3, 10, 11})
	expectRun(t, "(public n)(for i 5 (for j 5 (set n (+ n 1))))", []int{0}, []int{25})
}

func nestedSum() int {
	sum := 0
	for i := range 3 {
		for j := range 4 {
			sum = sum*3 + i*2 - j
		}
	}
	return sum
}

func TestDoneAsDeepAsMayBe(t *testing.T) {
	text, _ := nested(api.MaxNest)
	expectRun(t, text, []int{50}, []int{api.MaxNest + 1})
	halves := api.MaxNest/2 - 1
	ifs := "(secret k)" + strings.Repeat("(if k (", halves) + "(set k (+ k 7))" + strings.Repeat(") ((set k -1)))", halves)
	expectRun(t, ifs, []int{1}, []int{8})
	expectRun(t, ifs, []int{0}, []int{-1})
}

func TestAnotherNumberOfWords(t *testing.T) {
	for _, text := range goodTexts {
		shape, _ := mute.Shape(text)
		for words := range 60 {
			result, errno := mute.Run(text, make([]int, words))
			if words == len(shape) && (errno != api.OK || len(result) != words) {
				t.Errorf("P5: Run(%.120q) with %d words = %v, %d", text, words, result, errno)
			}
			if words != len(shape) && (errno != api.ErrArg || result != nil) {
				t.Errorf("P5: Run(%.120q) with %d words = %v, %d, want %d", text, words, result, errno, api.ErrArg)
			}
		}
	}
	// Not what there is room for counts, and nil is a memory of no words.
	for _, memory := range [][]int{nil, {}, make([]int, 1, 2), make([]int, 3, 9), make([]int, 0, 2)} {
		if result, errno := mute.Run("(public n)(secret k)", memory); errno != api.ErrArg || result != nil {
			t.Errorf("P5: Run with %d words = %v, %d", len(memory), result, errno)
		}
	}
}

// Check's error goes ahead of ErrArg, whatever memory there is.
func TestRunTellsChecksError(t *testing.T) {
	for text, want := range wrongTexts() {
		for words := range 16 {
			if result, errno := mute.Run(text, make([]int, words)); result != nil || errno != want {
				t.Errorf("P5: Run(%.120q) with %d words = %v, %d, want %d", text, words, result, errno, want)
			}
		}
	}
}
