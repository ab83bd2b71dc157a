package mute_test

import (
	"fmt"
	"math"
	"math/rand"
	"slices"
	"strings"
	"testing"

	"mute/api"
	"mute/mute"
)

func shapeOf(text string) []bool {
	shape, _ := mute.Shape(text)
	return shape
}

// publicOf are those of a program's words that are public.
func publicOf(shape []bool, words []int) []int {
	var public []int
	for i, secret := range shape {
		if !secret {
			public = append(public, words[i])
		}
	}
	return public
}

// expectAlike holds two memories that have the same public words against each other: what is seen, and the public words behind the program.
func expectAlike(t *testing.T, text string, code []api.Instr, shape []bool, first, second []int) {
	t.Helper()
	one, why := play(code, first)
	other, whyOther := play(code, second)
	if why+whyOther != "" || !slices.Equal(one.seen, other.seen) {
		t.Errorf("P7: of %q other things are seen on %v than on %v; %s %s", text, first, second, why, whyOther)
	}
	public := publicOf(shape, one.memory[:len(shape)])
	if others := publicOf(shape, other.memory[:len(shape)]); !slices.Equal(public, others) {
		t.Errorf("P8: behind the code of %q the public words are %v on %v, and %v on %v", text, public, first, others, second)
	}
	for _, memory := range [][]int{first, second} {
		if words, errno := mute.Run(text, memory); errno != api.OK || !slices.Equal(publicOf(shape, words), public) {
			t.Errorf("P8: behind %q on %v the words are %v, %d, the public ones of another run %v", text, memory, words, errno, public)
		}
	}
}

// withSecrets is a memory with the public words of one and the secret words of another.
func withSecrets(shape []bool, public, secret []int) []int {
	memory := slices.Clone(public)
	for i := range memory {
		if shape[i] {
			memory[i] = secret[i]
		}
	}
	return memory
}

// expectMute holds what is seen of a program's code against what is seen when its secret words are others.
func expectMute(t *testing.T, text string, random *rand.Rand) {
	t.Helper()
	code, shape := compiled(t, text), shapeOf(text)
	first := randomMemory(random, len(shape))
	for range 3 {
		expectAlike(t, text, code, shape, first, withSecrets(shape, first, randomMemory(random, len(shape))))
	}
}

// expectSecretly tries all that is promised of a program's code.
func expectSecretly(t *testing.T, text string) {
	t.Helper()
	memories := someMemories(text)
	expectAsRun(t, text, memories...)
	code, shape := compiled(t, text), shapeOf(text)
	for i, memory := range memories {
		expectAlike(t, text, code, shape, memory, withSecrets(shape, memory, memories[(i+1)%len(memories)]))
		expectAlike(t, text, code, shape, memory, withSecrets(shape, memory, memories[(i*i+5)%len(memories)]))
	}
}

const secretNames = "(secret k)(secret l)(public n)(array secret a 4)(array public p 3)(public m)"

// Questions about secrets that are no `if` are not to be seen, either.
func TestCodeIsMute(t *testing.T) {
	for _, dos := range []string{
		"(set k (choose k l n))", "(set k (choose (< k l) (choose l 1 2) (/ n 3)))", "(put a n (= k l))", "(set l (get a n))", "(for i n (set k (choose (= k i) (get a i) (get p i))))",
		"(if n ((set k (* k k))) ((put a (get p n) (choose k (get a 1) l))))", "(set k (& k (^ l (- k (* l (< k l))))))",
	} {
		expectSecretly(t, secretNames+dos)
	}
}

func TestCodeOfSecretIfs(t *testing.T) {
	for _, dos := range []string{
		"(if k ((set l 7)) ((set l 9)))", "(if k () ((set l 2)))", "(if k ((set l 2)) ())", "(if k () ())", "(if k ((set l n)(put a n l)) ((put a m k)(set k m)))", "(if (= k l) ((set l (+ l 1))(set l (* l 2))) ((set l (- k l))))",
		"(if (get a n) ((put a 1 5)) ((put a 2 6)))", "(if (+ (* k 0) n) ((set k 1)) ((set k 2)))", "(if (choose k n m) ((set l k)) ((set l m)))",
		// What is behind it is not under its condition.
		"(if k ((set l 1)) ((set l 2)))(set l (+ l 1))(set k 3)(set n (+ n m))(put p n m)(put a n 8)", "(if k ((set l 1)) ())(if l ((set k 2)) ())(if (< k l) () ((put a 0 1)))",
		// What was asked is changed.
		"(if k ((set k 0)(set l 1)) ((set k 1)(set l 2)))", "(if (< k l) ((set k l)(set l 0)) ((set l k)(set k 0)))", "(if (get a 1) ((put a 1 0)(put a 2 9)) ((put a 1 9)(put a 2 0)))",
		"(if k ((set k 0)(if k ((set l 1)) ((set l 2)(set k 5)))(set l (+ l k))) ((set k -1)(if k ((set l 3)) ((set l 4)))))",
		// Ifs in one another.
		"(if k ((if l ((put a 0 1)) ((put a 0 2)))) ((if l ((put a 0 3)) ((put a 0 4)))))", "(if k ((if l ((set k 1)) ())(set l 7)) ((set l 8)(if l () ((set k 2)))))",
		"(if n ((if k ((set l n)) ())) ((if l () ((set k n)))))(set n 1)", "(if k ((if n ((set l 1)) ((set l 2)))) ((if m () ((if l ((put a m 3)) ())))))(if n ((set m 4)) ((set n 5)))",
		"(if k ((if n ((if l ((set k 1)) ((set k 2)))(set l 3)) ((set l 4)))(set l (+ l k))) ((set k l)))",
	} {
		expectSecretly(t, secretNames+dos)
	}
}

func TestCodeOfLoopsAndSecretIfs(t *testing.T) {
	for _, dos := range []string{
		"(if k ((for i n (set l (+ (* l 3) i)))) ())", "(if k () ((for i n (put a i l)(set l (get a n)))))", "(if k ((for i n)) ((for i m (set k i))))", "(if k ((for i n (for j m (set l (+ l (* i j)))))) ((for i m (set l (- l i)))))",
		"(for i n (if (< (get a i) k) ((put a (+ i n) (+ k i))) ((set k (get a i)))))", "(for i n (for j m (if (^ k (get a j)) ((put a i (+ (get a j) (get p j)))) ((set k (choose (= k j) (get a i) -1))))))",
		"(for i n (if k ((set k (- k 1))) ((set l (+ l 1)))))", "(for i n (if k ((for j i (set k (- k 1))(if (= k 0) ((set l i)) ()))) ((set l (+ l i))))(set m (+ m i)))",
		"(if k ((for i n (if (= i 1) ((set l 5)) ((if (= l i) ((put a i 1)) ((put a i 2))))))) ())", "(if k ((for i n (set k 0)(set l (+ l 1)))) ((for i n (set k 1)(set l (- l 1)))))",
		"(if k ((for i (get p n) (if (= (get a i) l) ((set k i)) ()))) ((for i (- n m) (put a (- 0 i) (get p i)))))",
	} {
		expectSecretly(t, secretNames+dos)
	}
	sort := "(array secret a 6)(secret t)(for r 5 (for s 5 (if (< (get a (+ s 1)) (get a s)) ((set t (get a s))(put a s (get a (+ s 1)))(put a (+ s 1) t)) ())))"
	expectCode(t, sort, compiled(t, sort), []int{5, -1, 9, 0, math.MinInt, 2, 0}, []int{math.MinInt, -1, 0, 2, 5, 9})
	expectSecretly(t, sort)
}

// A question is answered by whether it is 0, and by nothing else in it.
func TestCodeOfEveryAnswer(t *testing.T) {
	const once, twice = "(secret k)(secret l)(if k ((set l 1)) ((set l 2)))", "(secret k)(secret l)(secret r)(if k ((if l ((set r 1)) ((set r 2)))) ((if l ((set r 3)) ((set r 4)))))"
	sides := func(word, yes, no int) int {
		if word != 0 {
			return yes
		}
		return no
	}
	for _, k := range edgeWords {
		expectCode(t, once, compiled(t, once), []int{k, 9}, []int{k, sides(k, 1, 2)})
		for _, l := range edgeWords {
			expectCode(t, twice, compiled(t, twice), []int{k, l, 9}, []int{k, l, sides(k, sides(l, 1, 2), sides(l, 3, 4))})
		}
	}
}

// askEachBit is a tree of ifs, which asks the lowest bits of k in turn, and then sets l to those that it was told of.
func askEachBit(bits, bit, told int) string {
	if bit == bits {
		return fmt.Sprintf("(set l %d)", told)
	}
	return fmt.Sprintf("(if(& k %d)(%s)(%s))", 1<<bit, askEachBit(bits, bit+1, told|1<<bit), askEachBit(bits, bit+1, told))
}

func TestCodeOfSecretIfsAsDeepAsMayBe(t *testing.T) {
	for bits := range api.MaxNest / 2 {
		text := "(secret k)(secret l)" + askEachBit(bits, 0, 0)
		code, shape := compiled(t, text), shapeOf(text)
		for k := range 64 {
			expectCode(t, text, code, []int{k, -1}, []int{k, k % (1 << bits)})
			expectAlike(t, text, code, shape, []int{k, -1}, []int{63 - k, k})
		}
	}
	const deep = api.MaxNest / 2
	empty := "(secret k)(public n)" + strings.Repeat("(if k (", deep) + strings.Repeat(")())", deep) + strings.Repeat("(if k ()(", deep) + strings.Repeat("))", deep)
	if depth(empty) != api.MaxNest {
		t.Errorf("%q has %d brackets in one another", empty, depth(empty))
	}
	expectSecretly(t, empty)
	for _, dos := range []string{
		strings.Repeat("(if k (", deep-1) + "(set k (- l 1))(set l 0)" + strings.Repeat(")((set k (+ l 1))))", deep-1),
		strings.Repeat("(if l ((set l (+ l k)))(", deep-1) + "(set l (* k 5))" + strings.Repeat("))(set k (- k 1))", deep-1),
		"(for i n (if k ((for j m (if l ((if (< k l) ((set l i)(put a j k)) ((set k (- l i)))))((set l 2)))))((set k i))))",
		"(if k ((for i n (if l ((if (< k l) ((if n ((set l i)) ((set k n))))((set k (- l 1)))))((set l 2)))))((set k m)))",
	} {
		if depth(dos) != api.MaxNest {
			t.Errorf("%q has %d brackets in one another", dos, depth(dos))
		}
		expectSecretly(t, secretNames+dos)
	}
}

// The numbers of an array's words go round in secret as elsewhere, and the words beside it stay as they are, on whichever side.
func TestCodeOfArraysInSecret(t *testing.T) {
	for size := 1; size <= api.MaxArray; size++ {
		text := fmt.Sprintf("(secret f)(array secret a %d)(secret g)(public n)(if g ((put a n -4)) ((set f (get a n))(put a (- n 1) f)))", size)
		code, shape := compiled(t, text), shapeOf(text)
		for _, n := range edgeWords {
			array := []int{10, 11, 12, 13, 14, 15}[:size]
			place := ((n % size) + size) % size
			before := (((n - 1) % size) + size) % size
			yes, no := slices.Concat([]int{91}, array, []int{-9, n}), slices.Concat([]int{91}, array, []int{0, n})
			wantYes, wantNo := slices.Clone(yes), slices.Clone(no)
			wantYes[1+place] = -4
			wantNo[0], wantNo[1+before] = array[place], array[place]
			expectCode(t, text, code, yes, wantYes)
			expectCode(t, text, code, no, wantNo)
			expectAlike(t, text, code, shape, yes, no)
		}
	}
	expectSecretly(t, secretNames+"(if k ((put a -999999999 7)(put a 999999999 (get p -1))) ((put a (get p n) (get a (get p (get p m))))))")
}

// Both words of a division are public, so that it may be done in secret, and on the side that is not meant, too.
func TestCodeOfDivisionsInSecret(t *testing.T) {
	const text = "(secret k)(secret l)(public n)(public m)(if k ((set l (/ n m))) ((set l (- 0 (/ m n)))))"
	code, shape := compiled(t, text), shapeOf(text)
	for _, n := range edgeWords {
		for _, m := range edgeWords {
			expectCode(t, text, code, []int{5, 9, n, m}, []int{5, reckoned("/", n, m), n, m})
			expectCode(t, text, code, []int{0, 9, n, m}, []int{0, reckoned("-", 0, reckoned("/", m, n)), n, m})
			expectAlike(t, text, code, shape, []int{5, 9, n, m}, []int{0, math.MinInt, n, m})
		}
	}
	for _, dos := range []string{"(if (< k (/ n 0)) ((set k (/ n m))(put a (/ m n) (/ 7 (get p n)))) ((set l (/ (/ n m) (/ m n)))))", "(if k ((for i (/ n m) (set l (/ n i)))) ((if (/ m n) ((set l 1)) ((set l 2)))))"} {
		expectSecretly(t, secretNames+dos)
	}
}

// Deep Exprs in a question, and in what is done by its answer, when conditions wait in memory besides.
func TestCodeOfDeepExprsInSecret(t *testing.T) {
	random, deep := rand.New(rand.NewSource(5)), 0
	for _, form := range []string{
		"(public n)(secret k)(array secret a 3)(array public p 4)(if @ ((set k 1)(put a n k)) ((set k -1)))",
		"(array secret b 6)(array secret c 6)(array public d 6)(array public p 6)(array secret a 6)(array secret e 6)(public n)(secret k)(if k ((set k @)) ((set k 7)))",
		"(public n)(secret k)(array secret a 3)(array public p 4)(if (< k n) () ((for i n (put a i @))))",
	} {
		for _, first := range wraps {
			for _, second := range wraps {
				text := deepest(form, first, second)
				if depth(text) == api.MaxNest {
					deep++
				}
				if text != "" {
					expectAsRun(t, text, someMemories(text)...)
					expectMute(t, text, random)
				}
			}
		}
	}
	if deep < 400 {
		t.Errorf("only %d of these are as deep as may be", deep)
	}
}

func TestCodeOfLongestTextsInSecret(t *testing.T) {
	random := rand.New(rand.NewSource(6))
	const names = "(public n)(secret k)(array secret a 6)(array public p 6)"
	for _, do := range []string{
		"(if k()())", "(if k((set k n))())", "(set k(- k 1))", "(put a n k)", "(put a(get p n)(get a(get p n)))", "(if k((if n((set k(- k 1)))((put a 1 n))))())", "(set k(choose(< n k)(+ k n)(* k(- k(choose n k 3)))))", "(put a(/ n(/ n 3))(get a(/ n 2)))",
	} {
		for _, around := range []string{"", "(if k(", "(for i 9(for j 9", "(if k()((for i 9(for j 9", "(for i 9(if(get a i)((for j 9"} {
			behind := map[string]string{"": "", "(if k(": ")())", "(for i 9(for j 9": "))", "(if k()((for i 9(for j 9": "))))", "(for i 9(if(get a i)((for j 9": "))()))"}[around]
			text := longest(names+around, do, behind)
			if errno, at := mute.Check(text); errno != api.OK {
				t.Fatalf("%q: %d, %d", text, errno, at)
			}
			expectAsRun(t, text, someMemories(text)...)
			expectMute(t, text, random)
		}
	}
}

// Public words behind a program, by hand: those that stand beside an `if` about a secret are set whatever its answer is.
func TestPublicWordsDoNotHangOnSecrets(t *testing.T) {
	for text, want := range map[string][]int{
		"(public n)(public m)(secret k)(if k ((set k n)) ((set k 9)))(set n (+ n 1))(set m (* n 2))":              {4, 8},
		"(public n)(public m)(secret k)(for i n (if (< k i) ((set k m)) ())(set m (- m i)))":                      {3, -1},
		"(public n)(public m)(secret k)(if n ((set m 7)(if k ((set k 0)) ())) ((set m 8)))":                       {3, 7},
		"(public n)(public m)(secret k)(if k ((for i n (set k (+ k i)))) ((if m ((set k 1)) ())))(set n (- n m))": {1, 2},
	} {
		for _, k := range edgeWords {
			words, errno := mute.Run(text, []int{3, 2, k})
			if errno != api.OK || !slices.Equal(words[:2], want) {
				t.Errorf("P8: Run(%q) with the secret %d = %v, %d, want %v", text, k, words, errno, want)
			}
			expectCode(t, text, compiled(t, text), []int{3, 2, k}, want)
		}
	}
}
