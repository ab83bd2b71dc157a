package mute_test

import (
	"fmt"
	"math"
	"math/rand"
	"slices"
	"strings"
	"sync"
	"testing"

	"mute/api"
	"mute/mute"
)

// pieces are what texts are thrown together from: all words of the language, some that are none, and stray bytes.
var pieces = []string{
	"(", "(", "(", "(", ")", ")", ")", ")", " ", " ", "\n", "\t", "\x00", "\xff", "é",
	"(public n)", "(secret k)", "(array public a 3)", "(array secret s 6)", "(for i 3 ", "(if k (", "(set k ", "(put a ", "(get a ", "(+ 1 ", "(choose k 1 ", ") ())",
	" public ", " secret ", " array ", " set ", " put ", " if ", " for ", " get ", " choose ",
	" + ", " - ", " / ", " < ", " 0 ", " 3 ", " -1 ", " 999999999 ", " 1234567890 ", " n ", " k ", " a ", " s ", " i ", " abcdefg ",
}

func thrown(random *rand.Rand) string {
	var text strings.Builder
	for range random.Intn(40) {
		text.WriteString(pieces[random.Intn(len(pieces))])
	}
	return text.String()
}

// spoiled is a good text in which one byte is another, missing or doubled, or from which on all is missing.
func spoiled(random *rand.Rand) string {
	text := goodTexts[random.Intn(len(goodTexts))]
	if text == "" {
		return text
	}
	i := random.Intn(len(text))
	switch random.Intn(4) {
	case 0:
		return text[:i]
	case 1:
		return text[:i] + text[i+1:]
	case 2:
		return text[:i+1] + text[i:]
	}
	return text[:i] + string(rune(random.Intn(256))) + text[i+1:]
}

// oddTexts are many texts, good and wrong; the same ones each time.
func oddTexts() []string {
	random := rand.New(rand.NewSource(1))
	texts := slices.Concat(goodTexts, []string{
		strings.Repeat("(", 1<<20), strings.Repeat("(if 1 (", 110), strings.Repeat("(for i 1 ", 80),
		eightNames + "(public i)", "(secret k)(for i k)", "(secret k)(public n)(set n k)",
	})
	for range 5000 {
		texts = append(texts, thrown(random), spoiled(random))
	}
	return texts
}

func TestCallsEndAndNonePanics(t *testing.T) {
	seen := make([]int, api.ErrArg+1)
	for _, text := range oddTexts() {
		errno, at := mute.Check(text)
		if errno < api.OK || errno > api.ErrSecret || at < 0 || at > len(text) || errno == api.OK && at != 0 {
			t.Fatalf("P1: Check(%.120q) = %d, %d", text, errno, at)
		}
		seen[errno]++
		checkShape(t, text, errno)
		checkRun(t, text, errno)
		checkCompile(t, text, errno)
	}
	if i := slices.Index(seen[:api.ErrArg], 0); i >= 0 {
		t.Errorf("no text here comes to error %d, so nothing was tried of it", i)
	}
}

// checkShape: Check's error, and with an error nothing else is answered.
func checkShape(t *testing.T, text string, want api.Errno) {
	t.Helper()
	shape, errno := mute.Shape(text)
	if errno != want || errno != api.OK && shape != nil || len(shape) > api.MaxNames*api.MaxArray {
		t.Errorf("P1: Shape(%.120q) = %v, %d, want %d", text, shape, errno, want)
	}
}

func checkRun(t *testing.T, text string, want api.Errno) {
	t.Helper()
	shape, _ := mute.Shape(text)
	for _, size := range []int{0, 1, len(shape), 300} {
		for _, memory := range [][]int{nil, make([]int, size), slices.Repeat([]int{math.MinInt, -1, math.MaxInt}, 100)[:size]} {
			expected := want
			if want == api.OK && len(memory) != len(shape) {
				expected = api.ErrArg
			}
			words, errno := mute.Run(text, memory)
			if errno != expected || errno != api.OK && words != nil || errno == api.OK && len(words) != len(memory) {
				t.Errorf("P1: Run(%.120q) with %d words = %v, %d, want %d", text, len(memory), words, errno, expected)
			}
		}
	}
}

// checkCompile: where there is no error there is code.
func checkCompile(t *testing.T, text string, want api.Errno) {
	t.Helper()
	code, errno := mute.Compile(text)
	if errno != want || errno != api.OK && code != nil || errno == api.OK && len(code) == 0 || !sound(code) {
		t.Errorf("P1: Compile(%.120q) = %v, %d, want %d", text, code, errno, want)
	}
}

// someWords are as many words as a program's memory has.
func someWords(text string) []int {
	shape, _ := mute.Shape(text)
	words := make([]int, len(shape))
	for i := range words {
		words[i] = i*i - 3
	}
	return words
}

// answersTo writes down what each call answers to each text.
func answersTo(texts []string) []string {
	answers := make([]string, len(texts))
	for i, text := range texts {
		errno, at := mute.Check(text)
		shape, shapeErrno := mute.Shape(text)
		words, wordsErrno := mute.Run(text, someWords(text))
		_, argErrno := mute.Run(text, make([]int, 300))
		code, codeErrno := mute.Compile(text)
		answers[i] = fmt.Sprint(errno, at, shape, shapeErrno, words, wordsErrno, argErrno, code, codeErrno)
	}
	return answers
}

// No call leaves anything behind that a later one, or one beside it, could see.
func TestSameAnswerEachTime(t *testing.T) {
	texts := oddTexts()
	first := answersTo(texts)
	backwards := slices.Clone(texts)
	slices.Reverse(backwards)
	again := answersTo(backwards)
	slices.Reverse(again)
	if !slices.Equal(first, again) {
		t.Error("P2: the same texts in another order are answered otherwise")
	}
	var workers sync.WaitGroup
	for range 4 {
		workers.Go(func() {
			if !slices.Equal(first, answersTo(texts)) {
				t.Error("P2: the same texts are answered otherwise beside others")
			}
		})
	}
	workers.Wait()
}

// fill writes into a whole slice and its spare room, as its owner may.
func fill[T any](words []T, value T) {
	room := words[:cap(words)]
	for i := range room {
		room[i] = value
	}
}

// Run leaves alone what is handed in and what stands ahead of it and behind it, whether it takes it or not, and does not give it back.
func TestMemoryIsLeftAlone(t *testing.T) {
	for _, text := range goodTexts {
		for size := range 15 {
			room := slices.Repeat([]int{7}, 20)
			words, _ := mute.Run(text, room[2:2+size])
			fill(words, 8)
			if !slices.Equal(room, slices.Repeat([]int{7}, 20)) {
				t.Fatalf("P2: Run(%.120q) with %d words wrote into what was handed in, or gave it back", text, size)
			}
		}
	}
}

// What Run answered stays so, when what was handed in is another thing afterwards.
func TestMemoryIsNotKept(t *testing.T) {
	for _, text := range goodTexts {
		memory := someWords(text)
		words, _ := mute.Run(text, memory)
		before := slices.Clone(words)
		fill(memory, 99)
		if again, _ := mute.Run(text, someWords(text)); !slices.Equal(words, before) || !slices.Equal(again, before) {
			t.Errorf("P2: Run(%.120q) = %v, and then %v and %v", text, before, words, again)
		}
	}
}

// Who has an answer may write into it and its spare room: no other answer, earlier or later, is another one by it.
func TestAnswersAreTheCallers(t *testing.T) {
	for _, text := range goodTexts {
		firstWords, _ := mute.Run(text, someWords(text))
		words, _ := mute.Run(text, someWords(text))
		firstShape, _ := mute.Shape(text)
		shape, _ := mute.Shape(text)
		wordsBefore, shapeBefore := slices.Clone(words), slices.Clone(shape)
		fill(firstWords, 99)
		for _, value := range []bool{true, false} {
			fill(firstShape, value)
			if laterShape, _ := mute.Shape(text); !slices.Equal(shape, shapeBefore) || !slices.Equal(laterShape, shapeBefore) {
				t.Errorf("P2: Shape(%.120q) = %v, and then %v and %v", text, shapeBefore, shape, laterShape)
			}
		}
		if laterWords, _ := mute.Run(text, someWords(text)); !slices.Equal(words, wordsBefore) || !slices.Equal(laterWords, wordsBefore) {
			t.Errorf("P2: Run(%.120q) = %v, and then %v and %v", text, wordsBefore, words, laterWords)
		}
	}
}

func TestCodeIsTheCallers(t *testing.T) {
	for _, text := range goodTexts {
		first, _ := mute.Compile(text)
		code, _ := mute.Compile(text)
		before := slices.Clone(code)
		fill(first, api.Instr{Op: 99, A: 99, B: 99, C: 99, D: 99})
		if later, _ := mute.Compile(text); !slices.Equal(code, before) || !slices.Equal(later, before) {
			t.Errorf("P2: Compile(%.120q) = %v, and then %v and %v", text, before, code, later)
		}
	}
}
