package mute_test

import (
	"strings"
	"testing"

	"mute/api"
	"mute/mute"
)

// eightNames is a program that declares as many names as there may be.
const eightNames = "(public a)(secret b)(array public c 1)(array secret d 6)(public e)(public f)(public g)(public h)"

// Each of these is right as it stands.
var goodTexts = []string{
	"",
	" \n \n",
	"(public n)",
	"(secret k)\n(public n)\n(set k (+ k n))\n",
	"( public\nn )( set n 1 )",
	"(public abcdef)(set abcdef abcdef)",
	"(public or)(public is)(public x)(set x (+ or is))",
	"(array public a 1)(array secret b 6)(put a 0 (get a 0))(put b (get a -7) (get b 99))",
	"(array secret a 2)(public n)(put a n (get a (/ n n)))",
	"(public n)(set n 0)(set n -0)(set n 000000000)(set n -999999999)(set n 999999999)",
	"(public n)(set n (+ 1 (- 1 (* 1 (/ 1 (& 1 (^ 1 (< 1 (= 1 n)))))))))",
	"(array public a 2)(public n)(set n(choose(get a 1)n 2))",
	"(if 1 () ())",
	"(if 0()((if 1((for i 2))())))",
	"(for i 3)",
	"(for i 3 (for j i))",
	"(for i 1 (for j 1) (if i ((for j 1)) ()) (for j 1))(for i 1 (for j 1))",
	"(public n)(for i n)(for i n (set n i))",
	"(secret k)(if k ((for i 3 (set k i))) ())",
	"(secret k)(public n)(if n ((set n 1)(set k n)) ((set k 2)))(set n 3)",
	"(secret k)(public n)(if k ((set k (/ n 2))) ((if (= k 1) () ((set k n)))))(set n (/ n 2))",
	"(secret k)(array secret a 3)(array public b 3)(if k ((put a (get b 1) k)) ())(put b 1 2)",
	"(secret k)(set k (choose k (< k 1) (= k (& k (^ k (* k (- k k)))))))",
	eightNames,
	eightNames + "(for i 1 (for j 1 (set a (+ i j))))",
}

// split takes the mark @ out of a text and tells where it stood.
func split(marked string) (string, int) {
	at := strings.IndexByte(marked, '@')
	return marked[:at] + marked[at+1:], at
}

func expect(t *testing.T, text string, errno api.Errno, at int) {
	t.Helper()
	if e, p := mute.Check(text); e != errno || p != at {
		t.Errorf("P3: Check(%.120q) = %d, %d, want %d, %d", text, e, p, errno, at)
	}
}

// expectAll checks texts in which @ marks the place that must be told.
func expectAll(t *testing.T, errno api.Errno, marked ...string) {
	t.Helper()
	for _, m := range marked {
		text, at := split(m)
		expect(t, text, errno, at)
	}
}

// nested is a `set` with so many brackets in one another, and the place of the innermost.
func nested(brackets int) (string, int) {
	ahead := "(secret k)(set k " + strings.Repeat("(+ 1 ", brackets-2)
	return ahead + "(+ 1 2" + strings.Repeat(")", brackets), len(ahead)
}

func TestGoodTexts(t *testing.T) {
	for _, text := range goodTexts {
		expect(t, text, api.OK, 0)
	}
}

func TestExamples(t *testing.T) {
	expect(t, "(secret k) (public n) (set k (+ k n))", api.OK, 0)
	expectAll(t, api.ErrSecret, "(secret k) (public n) @(set n k)", "(secret k) (if k (@(for i k)) ())")
	expectAll(t, api.ErrName, "(secret k) (public n) (set n (+ n @m))", "(set @x 1)")
	expectAll(t, api.ErrSyntax, "(if 1 () ()@")
	expect(t, "(secret k) (array secret a 4) (if (< k 10) ((put a 1 k)) ((put a 2 k)))", api.OK, 0)
	expect(t, "(array public a 3) (for i 9 (put a i (+ (get a (- i 1)) 1)))", api.OK, 0)
}

func TestTooLong(t *testing.T) {
	expect(t, strings.Repeat(" ", api.MaxText), api.OK, 0)
	expect(t, strings.Repeat(" ", api.MaxText+1), api.ErrLong, 0)
	for _, text := range goodTexts {
		expect(t, text+strings.Repeat("\n", api.MaxText-len(text)), api.OK, 0)
		expect(t, text+strings.Repeat("\n", api.MaxText+1-len(text)), api.ErrLong, 0)
	}
	// Bytes are counted, not letters, and nothing else is looked at.
	expect(t, strings.Repeat("é", api.MaxText/2), api.ErrSyntax, 0)
	expect(t, strings.Repeat("é", api.MaxText/2)+"e", api.ErrLong, 0)
	expect(t, strings.Repeat(")", 1<<20), api.ErrLong, 0)
}

func TestSyntaxOfBrackets(t *testing.T) {
	expectAll(t, api.ErrSyntax,
		"@)", "@x", "@1", "@public", "@\t", "@\r(public n)", "@\x00", "(@)", "(@(", "(public n)@)", "(if 1 () ()) @)",
		"(public n) @n", "(for i 3) @x (public n)", "(@1)", "(@+ 1 2)", "(@get a 1)", "(@choose 1 2 3)", "(@x)", "(@publicn)", "(@\tpublic n)",
	)
}

func TestSyntaxOfDecls(t *testing.T) {
	expectAll(t, api.ErrSyntax,
		"(public@)", "(public @(n))", "(public n @m)", "(public n @(m))", "(secret@)", "(secret n @3)",
		"(public @abcdefg)", "(public @N)", "(public @nN)", "(public @n1)", "(public @1)", "(public @n_)", "(public @é)", "(public @n\t)", "(public @-)",
		"(public @public)", "(public @secret)", "(public @array)", "(public @set)", "(public @put)", "(public @if)", "(public @for)", "(public @get)", "(public @choose)",
		"(array@)", "(array @a 3)", "(array @array a 3)", "(array public@)", "(array public @3)", "(array public @get 3)", "(array secret a@)", "(array public a @b)", "(array public a 3 @3)",
		"(array public a @0)", "(array public a @7)", "(array public a @9)", "(array public a @06)", "(array public a @10)", "(array public a @-1)", "(array public a @+1)", "(array public a @(+ 1 2))",
	)
}

func TestSyntaxOfDos(t *testing.T) {
	expectAll(t, api.ErrSyntax,
		"(public n) (@let n 1)", "(public n) (@Set n 1)", "(public n) (@n 1)", "(for i 3) (@public n)", "(if 1 ((@public n)) ())", "(for i 1 (@array public a 3))",
		"(set@)", "(set @1 1)", "(set @(n) 1)", "(set @set 1)", "(public n)(set n@)", "(public n)(set n 1 @2)", "(public n)(set n 1 @(+ 1 2))",
		"(put@)", "(put @1 1 1)", "(array public a 2)(put a@)", "(array public a 2)(put a 1@)", "(array public a 2)(put a 1 2 @3)",
		"(if@)", "(if 1@)", "(if 1 @2 ())", "(if 1 ()@)", "(if 1 () @2)", "(if 1 () () @())", "(if 1 (@1) ())", "(if 1 (@set) ())", "(if 1 ((@)) ())", "(if (@) () ())",
		"(for@)", "(for @3 i)", "(for @(i) 3)", "(for @if 3)", "(for @abcdefg 3)", "(for i@)", "(for i 3 @3)", "(for i 3 (@))", "(for i 3 (@()))",
	)
}

func TestSyntaxOfExprs(t *testing.T) {
	for _, wrong := range []string{
		"@)", "@+", "@-", "@get", "@for", "@abcdefg", "@N", "@n1", "@1n", "@0x1", "@1.5", "@1_0", "@+1", "@--1", "@-n", "@1234567890", "@-1234567890", "@0000000001", "@é",
		"(@)", "(@()", "(@1 2)", "(@n 2)", "(@set n 1)", "(@if 1 () ())", "(@% 1 2)", "(@++ 1 2)", "(@<= 1 2)", "(@== 1 2)", "(@> 1 2)", "(@| 1 2)",
		"(+@)", "(+ 1@)", "(+ 1 2 @3)", "(- 1@)", "(+ @+ 1 2)", "(+ 1 (@))",
		"(get@)", "(get @1 1)", "(get @(a) 1)", "(get a@)", "(get a 1 @2)", "(choose@)", "(choose 1@)", "(choose 1 2@)", "(choose 1 2 3 @4)",
	} {
		expectAll(t, api.ErrSyntax, "(public n)(array public a 2)(set n "+wrong+")", "(array public a 2)(for i 1 (put a "+wrong+" 1))", "(array public a 2)(if "+wrong+" () ())")
	}
}

func isSign(b byte) bool { return strings.IndexByte("() \n", b) >= 0 }

// cuts gives the beginnings of a text that end at the end of a word or a bracket, or behind a blank.
func cuts(text string) []string {
	var all []string
	for i := 1; i <= len(text); i++ {
		if i == len(text) || isSign(text[i-1]) || isSign(text[i]) {
			all = append(all, text[:i])
		}
	}
	return all
}

func TestEndsTooEarly(t *testing.T) {
	expectAll(t, api.ErrSyntax, "(@", "( \n@", "(public@", "(public n@", "(array@", "(array public@", "(array public a@", "(array public a 3  @", "(if 1 () ()@", "(for i 3 (for j 2)\n@")
	for _, text := range goodTexts {
		for _, cut := range cuts(text) {
			if strings.Count(cut, "(") == strings.Count(cut, ")") {
				expect(t, cut, api.OK, 0)
				continue
			}
			expect(t, cut, api.ErrSyntax, len(cut))
			expect(t, cut+" \n ", api.ErrSyntax, len(cut)+3)
		}
	}
}

func TestNames(t *testing.T) {
	expectAll(t, api.ErrName,
		"(set @x 1)", "(public n)(set @m 1)", "(public n)(set n @m)", "(public n)(set n (+ n (* 2 @m)))", "(public n)(set @nn n)",
		"(put @a 1 1)", "(public n)(set n (get @a 1))", "(public n)(put @n 1 1)", "(public n)(set n (get @n 0))",
		"(array public a 2)(set @a 1)", "(array public a 2)(put a @a 0)", "(array public a 2)(put a 0 @a)", "(array public a 2)(if @a () ())", "(array public a 2)(for i @a)",
		"(for i 3 (set @i 1))", "(for i 3 (put @i 1 1))", "(for i 3 (if (get @i 1) () ()))", "(for i 3 (for j 2 (set @i j)))",
		"(for i @i)", "(for i (+ 1 @i))", "(for i 3 (for j @j))", "(public n)(for i 3)(set n @i)", "(for i 3 (for j 3) (for k @j))", "(if 1 ((for i 3)) ((for j @i)))",
	)
}

func TestNamesTwice(t *testing.T) {
	expectAll(t, api.ErrTwice,
		"(public n)(public @n)", "(public n)(secret @n)", "(public n)(array secret @n 2)", "(array public a 2)(secret @a)", "(array public a 2)(public b)(array public @a 2)",
		"(public n)(for @n 3)", "(array secret a 2)(for @a 3)", "(for i 3 (for @i 2))", "(for i 3 (if i () ((for j 1)(for @i 2))))", "(public a)(public @a)"+strings.Repeat("(public a)", 7),
	)
	expect(t, "(for i 3)(for i 3 (for j 3)(for j 3))(for j 3 (for i 3))", api.OK, 0)
}

func TestTooManyNames(t *testing.T) {
	expectAll(t, api.ErrMany,
		eightNames+"@(public i)", eightNames+" @(secret i)", eightNames+"\n@( array public i 3)", eightNames+"@(public a)", eightNames+"@(secret i)(public i)",
		eightNames+"@(secret", eightNames+"@(array", eightNames+"@(public)", eightNames+"@(array x)", eightNames+"@(public 3)",
	)
	expectAll(t, api.ErrSyntax, eightNames+"(@secre", eightNames+"(@", eightNames+"(@(public i))", eightNames+"(for i 1)(@public j)")
}

func TestTooDeep(t *testing.T) {
	text, _ := nested(api.MaxNest)
	expect(t, text, api.OK, 0)
	text, at := nested(api.MaxNest + 1)
	expect(t, text, api.ErrDeep, at)
	expect(t, text[:at+1], api.ErrDeep, at)
	text, _ = nested(api.MaxNest + 2)
	expect(t, text, api.ErrDeep, at)
	expect(t, "(public n)(set n "+strings.Repeat("(+ 1 ", 150), api.ErrDeep, 17+5*(api.MaxNest-1))
	// Brackets of an `if` count too, and those that have been closed do not.
	ifs := strings.Repeat("(if 1 (", api.MaxNest/2)
	back := strings.Repeat(") ())", api.MaxNest/2)
	expect(t, ifs+back, api.OK, 0)
	expect(t, ifs+back+ifs+back, api.OK, 0)
	expectAll(t, api.ErrDeep, ifs+"@(for i 1)"+back, ifs+"@(nothing", ifs+"@()")
	// A bracket that cannot stand there is that first of all.
	expectAll(t, api.ErrSyntax, "(public n)(set n "+strings.Repeat("(+ 1 ", api.MaxNest-2)+"(@(+ 1 2)", ifs[:len(ifs)-1]+"@1")
}

func TestTooManyLoops(t *testing.T) {
	expectAll(t, api.ErrDeep,
		"(for i 1 (for j 1 (@for k 1)))", "(for i 1 (for j 1 (@for", "(for i 1 (for j 1 (@for 3 3)))", "(for i 1 (for j 1 (@for i 1)))",
		"(for i 1 (if 1 () ((for j 1 (if 1 ((@for k 1)) ())))))", "(for i 1)(for i 1 (for j 1)(for j 1 (@for k 1)))",
	)
	expect(t, "(for i 1 (for j 1) (for k 1))(for i 1 (if 1 ((for j 1)) ((for j 1))))", api.OK, 0)
}

// What is met first from the front is told, whatever number it has; a secret is told only where all else is right.
func TestOrderOfErrors(t *testing.T) {
	expectAll(t, api.ErrSyntax, "(public @N)(public n)(public n)", "(public n)(set n @+)(set m 1)", "(secret k)(public n)(set n k)@)", "(secret k)(for i k)(@")
	expectAll(t, api.ErrName, "(public n)(set @m +)", "(public n)(set n @m 2)", "(secret k)(public n)(set n k)(set n @m)", "(for i @n (for i 1))", "(set @x")
	expectAll(t, api.ErrTwice, "(public n)(array public @n 9)", "(public n)(public @n n)", "(public n)(for @n x)", "(public n)(for @n)", "(secret n)(for @n n)")
	expectAll(t, api.ErrMany, eightNames+"@(public a)(set x 1)", eightNames+"@(public Z)")
	expectAll(t, api.ErrDeep, "(for i 1 (for j 1 (@for i x)))", "(secret k)(public n)(set n k)(for i k (for j 1 (@for l 1)))")
	text, at := nested(api.MaxNest + 1)
	expect(t, text+")", api.ErrDeep, at)
	expect(t, "(public n)"+text, api.ErrDeep, at+10)
	expectAll(t, api.ErrTwice, "(public k)(secret @k)"+text)
}

func TestSecretsOfExprs(t *testing.T) {
	const names = "(secret k)(public n)(array secret s 2)(array public p 2)"
	for _, wrong := range []string{
		"@(/ 1 k)", "@(/ k 1)", "@(/ k k)", "@(/ (get s 0) 1)", "@(/ 1 (+ n (* k 0)))", "(+ 1 @(/ k 2))", "(+ (/ n 2) @(/ k 2))", "@(/ (/ k 2) 2)", "(- @(/ 1 k) (/ k 2))",
		"@(get p k)", "@(get s k)", "@(get s (get s 0))", "@(get s (get p (+ 0 k)))", "(choose n @(get p k) 1)", "(choose @(/ k 2) (get p k) 1)", "(choose 1 2 @(get s k))", "(^ (get p (choose n 1 2)) @(get p (choose 1 2 k)))",
	} {
		expectAll(t, api.ErrSecret, names+"(set k "+wrong+")", names+"(put s 0 "+wrong+")", names+"(if "+wrong+" ((set n 1)) ())", names+"(if k ((set k "+wrong+")) ())")
	}
	for _, right := range []string{"(/ n (get p 0))", "(get s n)", "(get s (get p (/ n 2)))", "(+ k (/ n 2))", "(choose k (/ n 2) (get s (choose n 1 2)))"} {
		expect(t, names+"(set k "+right+")(if k ((put s n "+right+")) ())", api.OK, 0)
	}
}

func TestSecretsOfDos(t *testing.T) {
	const names = "(secret k)(public n)(array secret s 2)(array public p 2)"
	for _, wrong := range []string{
		"@(set n k)", "@(set n (get s 0))", "@(set n (+ 1 (choose k 1 2)))", "@(set n (* 0 k))", "@(set n (/ k 2))", "(set n 1)@(set n k)(set n k)",
		"@(put p 0 k)", "@(put p k 0)", "@(put s k 0)", "@(put s (get s 0) 0)", "@(put s (/ k 2) 0)", "@(put p 0 (get s 0))", "@(put p 0 (get p k))",
		"@(for i k)", "@(for i (get s 0) (set n k))", "@(for i (/ 1 k))", "(for i n @(set n k))", "(for i n (for j i @(put p i k)))", "(for i n @(for j (- i k)))",
		"(if k (@(set n 1)) ())", "(if k () (@(set n 1)))", "(if (get s 0) (@(put p 0 1)) ())", "(if k (@(for i k)) ())",
		"(if k () ((if 1 () (@(set n 1)))))", "(if n ((if k () ())) (@(set n k)))", "(if n ((if (= k n) (@(set n n)) ())) ())", "(if k ((for i 2 @(set n i))) ())", "(if k ((if n () ((for i n @(put p i i))))) ())",
		"(if k () ())(if n ((set n 1)) ())@(set n k)",
	} {
		expectAll(t, api.ErrSecret, names+wrong, names+"(set k n) "+wrong+"(set n (/ k k))")
	}
	expect(t, names+"(if k ((for i n (put s i n)(set k i))) ((set k n)))(set n 1)(put p n 1)(for i n (set n i))", api.OK, 0)
}
