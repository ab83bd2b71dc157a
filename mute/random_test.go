package mute_test

import (
	"math/rand"
	"slices"
	"strconv"
	"strings"

	"mute/api"
	"mute/parse"
	"mute/tree"
)

// inventor makes texts of programs that are right.
type inventor struct {
	random *rand.Rand
	public []string // what can be read: variables and counters
	secret []string
	arrays map[bool][]string // by whether they are secret
	set    []string          // the public ones that can be set
	loops  int
	hidden bool // what is made now is done in secret
	leaves int  // of ten Exprs, so that some programs have long ones, and some many Do's
	room   int  // for so many brackets more
}

func randomProgram(random *rand.Rand) string {
	for {
		v := &inventor{random: random, arrays: map[bool][]string{}, leaves: 2 + random.Intn(7), room: 10 + random.Intn(60)}
		text := v.decls() + v.dos(0)
		if len(text) <= api.MaxText {
			return text
		}
	}
}

// decls declares one of each kind at least, in any order.
func (v *inventor) decls() string {
	kinds := []int{0, 1, 2, 3}
	for range v.random.Intn(api.MaxNames - 3) {
		kinds = append(kinds, v.random.Intn(4))
	}
	v.random.Shuffle(len(kinds), func(i, j int) { kinds[i], kinds[j] = kinds[j], kinds[i] })
	var text strings.Builder
	for i, kind := range kinds {
		name, size := string(rune('a'+i)), strconv.Itoa(1+v.random.Intn(api.MaxArray))
		switch kind {
		case 0:
			v.public, v.set = append(v.public, name), append(v.set, name)
			text.WriteString("(public " + name + ")")
		case 1:
			v.secret = append(v.secret, name)
			text.WriteString("(secret " + name + ")")
		case 2:
			v.arrays[false] = append(v.arrays[false], name)
			text.WriteString("(array public " + name + " " + size + ")")
		case 3:
			v.arrays[true] = append(v.arrays[true], name)
			text.WriteString("(array secret " + name + " " + size + ")")
		}
	}
	return text.String()
}

func (v *inventor) one(names []string) string { return names[v.random.Intn(len(names))] }

func (v *inventor) often(ofTen int) bool { return v.random.Intn(10) < ofTen }

func (v *inventor) dos(depth int) string {
	var text strings.Builder
	for range 1 + v.random.Intn(3) {
		text.WriteString(v.do(depth + 1))
	}
	return text.String()
}

// do makes a Do in whose bracket there are depth brackets open.
func (v *inventor) do(depth int) string {
	v.room--
	secret := v.hidden || v.often(5)
	switch kind := v.random.Intn(8); {
	case kind <= 2 && depth+2 < api.MaxNest && v.room > 0:
		return v.ask(depth, v.often(7))
	case kind <= 4 && depth+1 < api.MaxNest && v.room > 0 && v.loops < api.MaxLoops:
		return v.loop(depth)
	case kind <= 5:
		return "(put " + v.one(v.arrays[secret]) + " " + v.expr(depth, false) + " " + v.expr(depth, secret) + ")"
	case secret:
		return "(set " + v.one(v.secret) + " " + v.expr(depth, true) + ")"
	}
	return "(set " + v.one(v.set) + " " + v.expr(depth, false) + ")"
}

// ask makes an `if`, of which now and then a side is empty.
func (v *inventor) ask(depth int, secret bool) string {
	question, outside := v.expr(depth, secret), v.hidden
	v.hidden = v.hidden || secret
	sides := []string{"", ""}
	for i := range sides {
		if v.often(8) {
			sides[i] = v.dos(depth + 1)
		}
	}
	v.hidden = outside
	return "(if " + question + "(" + sides[0] + ")(" + sides[1] + "))"
}

func (v *inventor) loop(depth int) string {
	rounds, outside := v.expr(depth, false), v.public
	counter := "x" + strings.Repeat("y", v.loops)
	v.public = append(append([]string{}, v.public...), counter)
	v.loops++
	text := "(for " + counter + " " + rounds + " " + v.dos(depth) + ")"
	v.public = outside
	v.loops--
	return text
}

func (v *inventor) expr(depth int, secret bool) string {
	if depth == api.MaxNest || v.room <= 0 || v.often(v.leaves) {
		return v.leaf(secret)
	}
	v.room--
	depth++
	switch kind := v.random.Intn(10); {
	case kind < 2:
		return "(get " + v.one(v.arrays[secret && v.often(6)]) + " " + v.expr(depth, false) + ")"
	case kind < 5:
		return "(choose " + v.expr(depth, secret) + " " + v.expr(depth, secret) + " " + v.expr(depth, secret) + ")"
	case kind < 6:
		return "(/ " + v.expr(depth, false) + " " + v.expr(depth, false) + ")"
	}
	return "(" + v.one(strings.Fields("+ - * & ^ < =")) + " " + v.expr(depth, secret) + " " + v.expr(depth, secret) + ")"
}

func (v *inventor) leaf(secret bool) string {
	switch {
	case v.often(3):
		return v.one(strings.Fields("0 1 -1 2 3 5 6 7 -7 999999999 -999999999"))
	case secret && v.often(7):
		return v.one(v.secret)
	}
	return v.one(v.public)
}

// asksSecret tells whether an `if` of a program asks a secret.
func asksSecret(text string) bool {
	program, _, _ := parse.Program(text)
	return anyAsksSecret(program.Dos)
}

func anyAsksSecret(dos []tree.Do) bool {
	return slices.ContainsFunc(dos, func(do tree.Do) bool {
		switch do := do.(type) {
		case tree.If:
			return do.Question.Secret() || anyAsksSecret(do.Yes) || anyAsksSecret(do.No)
		case tree.For:
			return anyAsksSecret(do.Body)
		}
		return false
	})
}
