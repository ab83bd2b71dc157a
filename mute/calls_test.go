package mute_test

import (
	"math/rand"
	"slices"
	"strings"
	"sync"
	"testing"

	"mute/api"
	"mute/mute"
)

// pieces are what texts are thrown together from: all words of the language, some that are none, and stray bytes.
var pieces = []string{
	"(", "(", "(", "(", ")", ")", ")", ")", " ", " ", "\n", "\t", "\x00", "\xff", "é",
	"(public n)", "(secret k)", "(array public a 3)", "(array secret s 6)", "(for i 3 ", "(if k (", "(set k ", "(put a ", "(get a ", "(+ 1 ", "(choose k 1 ", ") ())",
	" public ", " secret ", " array ", " set ", " put ", " if ", " for ", " get ", " choose ",
	" + ", " - ", " / ", " < ", " 0 ", " 3 ", " -1 ", " 999999999 ", " 1234567890 ", " n ", " k ", " a ", " s ", " i ", " abcdefg ",
}

func thrown(random *rand.Rand) string {
	var text strings.Builder
	for range random.Intn(40) {
		text.WriteString(pieces[random.Intn(len(pieces))])
	}
	return text.String()
}

// spoiled is a good text in which one byte is another, missing or doubled, or from which on all is missing.
func spoiled(random *rand.Rand) string {
	text := goodTexts[random.Intn(len(goodTexts))]
	if text == "" {
		return text
	}
	i := random.Intn(len(text))
	switch random.Intn(4) {
	case 0:
		return text[:i]
	case 1:
		return text[:i] + text[i+1:]
	case 2:
		return text[:i+1] + text[i:]
	}
	return text[:i] + string(rune(random.Intn(256))) + text[i+1:]
}

// oddTexts are many texts, good and wrong; the same ones each time.
func oddTexts() []string {
	random := rand.New(rand.NewSource(1))
	texts := slices.Concat(goodTexts, []string{
		strings.Repeat("(", 1<<20), strings.Repeat("(if 1 (", 110), strings.Repeat("(for i 1 ", 80),
		eightNames + "(public i)", "(secret k)(for i k)", "(secret k)(public n)(set n k)",
	})
	for range 5000 {
		texts = append(texts, thrown(random), spoiled(random))
	}
	return texts
}

func TestCallsEndAndNonePanics(t *testing.T) {
	seen := make([]int, api.ErrArg+1)
	for _, text := range oddTexts() {
		errno, at := mute.Check(text)
		if errno < api.OK || errno > api.ErrSecret || at < 0 || at > len(text) || errno == api.OK && at != 0 {
			t.Fatalf("P1: Check(%.120q) = %d, %d", text, errno, at)
		}
		seen[errno]++
		checkNil(t, text)
	}
	if i := slices.Index(seen[:api.ErrArg], 0); i >= 0 {
		t.Errorf("no text here comes to error %d, so nothing was tried of it", i)
	}
}

// checkNil: with an error nothing else is answered.
func checkNil(t *testing.T, text string) {
	t.Helper()
	if shape, errno := mute.Shape(text); errno != api.OK && shape != nil {
		t.Errorf("P1: Shape(%.120q) = %v, %d", text, shape, errno)
	}
	if code, errno := mute.Compile(text); errno != api.OK && code != nil {
		t.Errorf("P1: Compile(%.120q) = %v, %d", text, code, errno)
	}
	for _, memory := range [][]int{nil, {}, {1}, make([]int, 300)} {
		if words, errno := mute.Run(text, memory); errno != api.OK && words != nil {
			t.Errorf("P1: Run(%.120q, %v) = %v, %d", text, memory, words, errno)
		}
	}
}

type answer struct {
	errno api.Errno
	at    int
}

func checkEach(texts []string) []answer {
	answers := make([]answer, len(texts))
	for i, text := range texts {
		answers[i].errno, answers[i].at = mute.Check(text)
	}
	return answers
}

// No call leaves anything behind that a later one, or one beside it, could see.
func TestSameAnswerEachTime(t *testing.T) {
	texts := oddTexts()
	first := checkEach(texts)
	backwards := slices.Clone(texts)
	slices.Reverse(backwards)
	again := checkEach(backwards)
	slices.Reverse(again)
	if !slices.Equal(first, again) {
		t.Error("P2: the same texts in another order are answered otherwise")
	}
	var workers sync.WaitGroup
	for range 4 {
		workers.Go(func() {
			if !slices.Equal(first, checkEach(texts)) {
				t.Error("P2: the same texts are answered otherwise beside others")
			}
		})
	}
	workers.Wait()
}

func TestMemoryIsLeftAlone(t *testing.T) {
	for _, text := range goodTexts {
		for size := range 15 {
			room := slices.Repeat([]int{7}, 20)
			words, _ := mute.Run(text, room[:size])
			for i := range words[:cap(words)] {
				words[:cap(words)][i] = 8
			}
			if !slices.Equal(room, slices.Repeat([]int{7}, 20)) {
				t.Fatalf("P2: Run(%.120q) with %d words wrote into what was handed in, or gave it back", text, size)
			}
		}
	}
}
