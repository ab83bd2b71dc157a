package mute_test

import (
	"slices"
	"strings"
	"testing"

	"mute/api"
	"mute/mute"
)

// expectShape: in want, s stands for a secret word and p for a public one.
func expectShape(t *testing.T, text, want string) {
	t.Helper()
	var words []bool
	for _, letter := range want {
		words = append(words, letter == 's')
	}
	if shape, errno := mute.Shape(text); errno != api.OK || !slices.Equal(shape, words) {
		t.Errorf("P4: Shape(%.120q) = %v, %d, want %v", text, shape, errno, words)
	}
}

func TestShape(t *testing.T) {
	expectShape(t, "", "")
	expectShape(t, " \n", "")
	expectShape(t, "(public n)", "p")
	expectShape(t, "(secret k)", "s")
	expectShape(t, "(secret k)(public n)", "sp")
	expectShape(t, "(public n)(secret k)", "ps")
	expectShape(t, "(array public a 1)(array secret b 1)", "ps")
	expectShape(t, "(array secret a 6)(array public b 6)", "sssssspppppp")
	expectShape(t, "(public n)(array secret a 3)(secret k)(array public b 2)", "psssspp")
	expectShape(t, eightNames, "pspsssssspppp")
	expectShape(t, "(array secret a 6)(array public b 6)(array secret c 6)(array public d 6)"+
		"(array secret e 6)(array public f 6)(array secret g 6)(array public h 6)", strings.Repeat("sssssspppppp", 4))
}

// Counters are no words of the memory, and what the Do's are changes nothing.
func TestShapeIsOfDeclsAlone(t *testing.T) {
	for _, dos := range []string{"", "(for i 3)", "(for i n (for j 2 (set k (+ i j))))", "(set k n)", "(if k ((set k 0)) ())", "(put a n k)"} {
		expectShape(t, "(secret k)(public n)(array secret a 2)"+dos, "spss")
	}
}

func TestShapeTellsChecksError(t *testing.T) {
	for text, want := range wrongTexts() {
		if shape, errno := mute.Shape(text); shape != nil || errno != want {
			t.Errorf("P4: Shape(%.120q) = %v, %d, want %d", text, shape, errno, want)
		}
	}
}

// wrongTexts has a text for each error of Check.
func wrongTexts() map[string]api.Errno {
	deep, _ := nested(api.MaxNest + 1)
	return map[string]api.Errno{
		"(public n)" + strings.Repeat(" ", api.MaxText): api.ErrLong,
		"(public n":                                           api.ErrSyntax,
		"(public n)(set n 1))":                                api.ErrSyntax,
		"(public n)(set m 1)":                                 api.ErrName,
		"(public n)(secret n)":                                api.ErrTwice,
		eightNames + "(public i)":                             api.ErrMany,
		deep:                                                  api.ErrDeep,
		"(for i 1 (for j 1 (for k 1)))":                       api.ErrDeep,
		"(secret k)(public n)(set n k)":                       api.ErrSecret,
		"(secret k)(for i k)":                                 api.ErrSecret,
		"(secret k)(if k ((for i k)) ())":                     api.ErrSecret,
		"(array secret a 2)(put a 0 (/ (get a 1) 2))":         api.ErrSecret,
		"(secret k)(public n)(if k ((set n 1)) ())":           api.ErrSecret,
		"(secret k)(array public p 2)(if k () ((put p 0 1)))": api.ErrSecret,
		"(secret k)(public n)(for i 2 (if k ((if n () ((set n 1)))) ()))": api.ErrSecret,
		"(secret k)(array secret a 2)(if k ((put a k 1)) ())":             api.ErrSecret,
	}
}
