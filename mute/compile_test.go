package mute_test

import (
	"fmt"
	"math"
	"math/rand"
	"slices"
	"strings"
	"testing"

	"mute/api"
	"mute/mute"
)

// compiled is the code of a program, which must have some.
func compiled(t *testing.T, text string) []api.Instr {
	t.Helper()
	code, errno := mute.Compile(text)
	if errno != api.OK || len(code) == 0 || !sound(code) {
		t.Fatalf("P6: Compile(%q) = %v, %d", text, code, errno)
	}
	return code
}

// expectCode holds what code does against the words that must be behind it.
func expectCode(t *testing.T, text string, code []api.Instr, memory, want []int) *machine {
	t.Helper()
	m, why := play(code, memory)
	if words := m.memory[:len(want)]; why != "" || !slices.Equal(words, want) {
		t.Errorf("P6: %.800q on %v: %v, want %v; %s", text, memory, words, want, why)
	}
	return m
}

// expectAsRun holds the code of a program against what Run tells, over these memories.
func expectAsRun(t *testing.T, text string, memories ...[]int) {
	t.Helper()
	code := compiled(t, text)
	for _, memory := range memories {
		want, errno := mute.Run(text, memory)
		if errno != api.OK {
			t.Fatalf("P5: Run(%q, %v) = %d", text, memory, errno)
		}
		expectCode(t, text, code, memory, want)
	}
}

// someMemories are memories for a program: all words 0, each edge word in turn, and mixed ones; the same each time.
func someMemories(text string) [][]int {
	shape, _ := mute.Shape(text)
	memories := [][]int{make([]int, len(shape))}
	for _, word := range edgeWords {
		memories = append(memories, slices.Repeat([]int{word}, len(shape)))
	}
	random := rand.New(rand.NewSource(2))
	for range 20 {
		memories = append(memories, randomMemory(random, len(shape)))
	}
	return memories
}

func randomMemory(random *rand.Rand, words int) []int {
	memory := make([]int, words)
	for i := range memory {
		memory[i] = edgeWords[random.Intn(len(edgeWords))]
		if random.Intn(3) == 0 {
			memory[i] = random.Intn(17) - 8
		}
	}
	return memory
}

func TestCompileExamples(t *testing.T) {
	const one, three = "(secret k) (public n) (set k (+ k n))", "(array public a 3) (for i 9 (put a i (+ (get a (- i 1)) 1)))"
	const two = "(secret k) (array secret a 4) (if (< k 10) ((put a 1 k)) ((put a 2 k)))"
	expectCode(t, one, compiled(t, one), []int{5, 7}, []int{12, 7})
	small := expectCode(t, two, compiled(t, two), []int{3, 0, 0, 0, 0}, []int{3, 0, 3, 0, 0})
	great := expectCode(t, two, compiled(t, two), []int{30, 0, 0, 0, 0}, []int{30, 0, 0, 30, 0})
	if !slices.Equal(small.seen, great.seen) {
		t.Errorf("P7: of %q %v is seen, and %v", two, small.seen, great.seen)
	}
	expectCode(t, three, compiled(t, three), []int{0, 0, 0}, []int{4, 5, 3})
	for _, text := range []string{"(secret k) (public n) (set n k)", "(secret k) (public n) (set n (+ n m))"} {
		if code, errno := mute.Compile(text); code != nil || errno == api.OK {
			t.Errorf("P6: Compile(%q) = %v, %d", text, code, errno)
		}
	}
}

func TestCodeOfNothing(t *testing.T) {
	for _, text := range []string{"", " \n", "(public n)", "(if 1 () ())", "(for i 3)", eightNames} {
		expectAsRun(t, text, someMemories(text)...)
	}
}

func TestCodeOfGoodTexts(t *testing.T) {
	for _, text := range goodTexts {
		expectAsRun(t, text, someMemories(text)...)
	}
}

func TestCodeOfEveryOp(t *testing.T) {
	for _, op := range strings.Fields("+ - * / & ^ < =") {
		texts := []string{"(public a)(public b)(public c)(set c (" + op + " a b))", "(public a)(public b)(public c)(set c (" + op + " b a))"}
		if op != "/" {
			texts = append(texts, "(secret a)(public b)(secret c)(set c ("+op+" a b))", "(public a)(secret b)(secret c)(set c ("+op+" b a))")
		}
		for i, text := range texts {
			code := compiled(t, text)
			for _, a := range edgeWords {
				for _, b := range edgeWords {
					want := []int{reckoned(op, a, b), reckoned(op, b, a)}[i%2]
					expectCode(t, text, code, []int{a, b, 77}, []int{a, b, want})
				}
			}
		}
	}
}

func TestCodeOfChoose(t *testing.T) {
	for _, kind := range []string{"public", "secret"} {
		for _, expr := range []string{"(choose a b 6)", "(choose b 5 a)", "(choose (< a b) (choose a 10 b) (choose (= a 3) 30 40))", "(choose (choose a 0 b) (- a b) (- b a))"} {
			text := "(" + kind + " a)(public b)(secret c)(set c " + expr + ")"
			for _, word := range edgeWords {
				expectAsRun(t, text, []int{word, 0, 1}, []int{word, 3, 1}, []int{0, word, 1}, []int{word, word, 1})
			}
		}
	}
}

// The words beside an array stay as they are, wherever a number points.
func TestCodeOfArrays(t *testing.T) {
	for size := 1; size <= api.MaxArray; size++ {
		names := fmt.Sprintf("(secret f)(array secret a %d)(secret g)(public n)(array public p %d)", size, size)
		for _, dos := range []string{"(put a n -4)", "(set f (get a n))", "(put p n n)(set g (get a (get p n)))", "(put p (get p n) (get p (- n 1)))", "(put a (* n n) (+ (get a (- 0 n)) (get p (/ n 2))))", "(put a -999999999 7)(put a 999999999 8)(put p 0 9)(set f (get p -1))"} {
			code := compiled(t, names+dos)
			for _, n := range edgeWords {
				array := []int{10, 11, 12, 13, 14, 15}[:size]
				memory := slices.Concat([]int{91}, array, []int{92, n}, array)
				want, _ := mute.Run(names+dos, memory)
				expectCode(t, names+dos, code, memory, want)
			}
		}
	}
	const text = "(array public a 3)(public n)(put a n 5)"
	expectCode(t, text, compiled(t, text), []int{1, 2, 3, math.MinInt}, []int{1, 5, 3, math.MinInt})
}

func TestCodeOfPublicIfs(t *testing.T) {
	const names = "(public a)(public b)(secret c)"
	for _, dos := range []string{
		"(if a ((set b 1)) ((set c 2)))", "(if a () ((set b 2)))", "(if a ((set b 2)) ())", "(if (< a b) ((set a b)) ((set b a)(set c a)))",
		"(if a ((set a 0)(set b 1)) ((set b 2)))(if a ((set c b)) ((set a 9)))", "(if 0 ((set a 1)) ((set b 2)))(if -1 ((set c 3)) ((set a 4)))",
		"(if a ((if b ((set c 1)) ((set c 2)))) ((if b ((set c 3)) ((set c 4)))))(set c (+ c 1))",
		"(if a ((for i b (set c (+ c i)))) ((if (= b 1) () ((set c (choose c 1 2))))))",
	} {
		expectAsRun(t, names+dos, someMemories(names)...)
	}
	ifs := "(public k)" + strings.Repeat("(if k (", 4) + "(set k (+ k 7))" + strings.Repeat(") ((set k -1)))", 4)
	expectAsRun(t, ifs, someMemories(ifs)...)
}

func TestCodeOfLoops(t *testing.T) {
	const names = "(public n)(public m)(secret k)(array public a 5)"
	for _, dos := range []string{
		"(for i n (set k (+ (* k 10) (+ i 1))))", "(for i n (for j m (set k (+ (* k 3) (- (* i 2) j)))))", "(for i n (for j i (set k (+ k (* i j))))(put a i i))",
		"(for i n (set n 1)(set m (+ m 1)))", "(for i n (set n 5)(set m (+ m 1)))", "(for i (- n m) (set m (+ m 1)))", "(for i (get a 1) (put a 1 i)(set n (+ n 1)))",
		"(for i n (for j m (set m (- m 1))(set n (+ n j)))(set m (+ m i)))", "(for i n (for j 2 (set k (+ k j)))(for j 3 (set k (* k 2)))(set m i))(for i m (set k (+ k i)))",
		"(for i n (if (= i 2) ((for j i (put a j (+ (get a i) j)))) ((set m i))))", "(if n ((for i m (set n i))) ((for j 9 (set m j))))", "(for i 0 (set n 1))(for i -1 (set n 2))(for i -999999999 (set n 3))(for i 999999999 (set m (+ m 1)))",
		"(for i n)(for i n (for j m))", "(for i (choose (< n m) n m) (set k i))",
	} {
		code := compiled(t, names+dos)
		for _, n := range edgeWords {
			for _, m := range []int{n, 0, 1, 3, -4, 7, math.MinInt} {
				memory := []int{n, m, 5, 1, 2, 3, m, n}
				want, _ := mute.Run(names+dos, memory)
				expectCode(t, names+dos, code, memory, want)
			}
		}
	}
}

// wraps are Exprs about another one, which stands at @.
var wraps = []string{
	"(+ @ n)", "(- n @)", "(- @ 3)", "(* k @)", "(choose @ n 3)", "(choose n @ 3)", "(choose n 3 @)", "(choose k n @)", "(choose (< n 3) (+ n 1) @)", "(choose (= k 1) @ (^ k n))",
	"(- (get a n) @)", "(- @ (get a n))", "(+ (* (- n 3) (- k 1)) @)", "(& (choose n k 7) @)", "(get a @)", "(get p @)", "(/ @ n)", "(/ 1000 @)", "(get a (+ @ n))", "(< (get p (get p 1)) @)",
}

// deepest puts wraps about each other in turn, at each @ of a text, until there would be too many brackets. (What would tell a secret is left out.)
func deepest(form string, turn ...string) string {
	expr, text := "k", ""
	for i := 0; ; i++ {
		next := strings.Replace(turn[i%len(turn)], "@", expr, 1)
		longer := strings.ReplaceAll(form, "@", next)
		errno, _ := mute.Check(longer)
		if errno == api.ErrSecret && expr == "k" {
			expr = "n"
			continue
		}
		if errno != api.OK {
			return text
		}
		expr, text = next, longer
	}
}

// depth is how many brackets stand in one another.
func depth(text string) int {
	open, most := 0, 0
	for _, sign := range text {
		switch sign {
		case '(':
			open++
		case ')':
			open--
		}
		most = max(most, open)
	}
	return most
}

// Here more words wait at a time than there are registers. With forty-eight words of memory those that wait must not fall on any of them.
func TestCodeOfDeepExprs(t *testing.T) {
	deep := 0
	for _, names := range []string{
		"(public n)(secret k)(array secret a 3)(array public p 4)",
		"(array secret b 6)(array secret c 6)(array public d 6)(array public p 6)(array secret a 6)(array secret e 6)(public n)(secret k)",
	} {
		for _, first := range wraps {
			for _, second := range wraps {
				text := deepest(names+"(set k @)", first, second)
				if depth(text) == api.MaxNest {
					deep++
				}
				if text != "" {
					expectAsRun(t, text, someMemories(text)...)
				}
			}
		}
	}
	if deep < 200 {
		t.Errorf("only %d of these are as deep as may be", deep)
	}
}

// longest fills a text up with one Do, again and again, until it is as long as may be.
func longest(ahead, do, behind string) string {
	times := (api.MaxText - len(ahead) - len(behind)) / len(do)
	text := ahead + strings.Repeat(do, times) + behind
	return text + strings.Repeat(" ", api.MaxText-len(text))
}

func TestCodeOfLongestTexts(t *testing.T) {
	const names = "(public n)(secret k)(array secret a 6)(array public p 6)"
	for _, do := range []string{
		"(set n n)", "(put p n n)", "(put a n k)", "(put p(get p n)(get p(get p n)))", "(set k(choose k k k))", "(set k(get a(get p(get p(get p n)))))",
		"(if n((set n(- n 1)))((put p 1 n)))", "(set k(choose(< n k)(+ k n)(* k(- k(choose n k 3)))))", "(set n(/ n(/ n(/ n(/ n(/ n(/ n 2)))))))",
	} {
		for _, round := range []string{"", "(for i 9 ", "(for i 9 (for j 9 "} {
			text := longest(names+round, do, strings.Repeat(")", strings.Count(round, "(")))
			expectAsRun(t, text, someMemories(text)...)
		}
	}
	loops := longest("(public n)(for i 9 ", "(for j 9(set n(+ n j)))", ")")
	expectAsRun(t, loops, []int{0}, []int{math.MaxInt})
}

// The widest Expr is one of sixty-four pairs.
func TestCodeOfWidestExpr(t *testing.T) {
	wide := "k"
	for _, op := range strings.Fields("- * + ^ - + -") {
		wide = "(" + op + " " + wide + " " + strings.Replace(wide, "k", "n", 1) + ")"
	}
	text := "(public n)(secret k)(set k " + wide + ")"
	expectAsRun(t, text, someMemories(text)...)
}

func TestCodeOfRandomPrograms(t *testing.T) {
	random := rand.New(rand.NewSource(3))
	asking := 0
	for range 3000 {
		text := randomProgram(random)
		if errno, at := mute.Check(text); errno != api.OK {
			t.Fatalf("%q: %d, %d", text, errno, at)
		}
		words := len(someWords(text))
		expectAsRun(t, text, randomMemory(random, words), randomMemory(random, words), randomMemory(random, words))
		expectMute(t, text, random)
		if asksSecret(text) {
			asking++
		}
	}
	if asking < 1000 {
		t.Errorf("only %d of these ask secrets", asking)
	}
}

func TestCompileTellsChecksError(t *testing.T) {
	for text, want := range wrongTexts() {
		if code, errno := mute.Compile(text); code != nil || errno != want {
			t.Errorf("P6: Compile(%.120q) = %v, %d, want %d", text, code, errno, want)
		}
	}
}
