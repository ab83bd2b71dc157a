// Package parse reads the text of a program, and tells the first thing in it that is wrong in itself. What it may not do with its secrets is the guard's matter.
package parse

import (
	"slices"
	"strconv"

	"mute/api"
	"mute/tree"
)

// Program reads a text: the program, or the first error and its place.
func Program(text string) (tree.Program, api.Errno, int) {
	if len(text) > api.MaxText {
		return tree.Program{}, api.ErrLong, 0
	}
	r := &reader{text: text, token: scan(text, 0)}
	program := r.program()
	if r.errno != api.OK {
		return tree.Program{}, r.errno, r.errorAt
	}
	return program, api.OK, 0
}

// reader goes through a text from the front to the back, one token at a time.
type reader struct {
	text    string
	token   token       // the one that is looked at
	names   []tree.Name // that can be seen
	words   int         // of memory that they have
	depth   int         // brackets that are open
	loops   int         // that are open
	errno   api.Errno
	errorAt int
}

// fail keeps the first error. The text counts as ended from there on, so that all reading comes to its end and nothing behind is told.
func (r *reader) fail(errno api.Errno, at int) {
	if r.errno == api.OK {
		r.errno, r.errorAt = errno, at
	}
	r.token = token{ending, len(r.text)}
}

func (r *reader) failHere(errno api.Errno) { r.fail(errno, r.token.at) }

func (r *reader) peek() token {
	return scan(r.text, r.token.at+len(r.token.text))
}

func (r *reader) step() { r.token = r.peek() }

// take steps over the token, and gives its text, if it is one that can stand here.
func (r *reader) take(fits func(string) bool) string {
	text := r.token.text
	if !fits(text) {
		r.failHere(api.ErrSyntax)
		return text
	}
	r.step()
	return text
}

func (r *reader) expect(text string) {
	r.take(func(other string) bool { return other == text })
}

// inBrackets reads a bracket, by inside what stands in it (which is told the bracket's place), and the bracket that closes it.
func inBrackets[T any](r *reader, inside func(at int) T) T {
	at := r.token.at
	r.expect(opening)
	if r.depth == api.MaxNest {
		r.fail(api.ErrDeep, at)
	}
	r.depth++
	defer func() { r.depth-- }()
	result := inside(at)
	r.expect(closing)
	return result
}

func (r *reader) program() tree.Program {
	for r.token.text == opening && beginsDecl(r.peek().text) {
		name := inBrackets(r, r.decl)
		r.names = append(r.names, name)
		r.words += name.Size
	}
	dos := r.dos()
	r.expect(ending)
	return tree.Program{Names: r.names, Words: r.words, Dos: dos}
}

func (r *reader) decl(at int) tree.Name {
	if len(r.names) == api.MaxNames {
		r.fail(api.ErrMany, at)
	}
	if r.token.text == "array" {
		return r.array()
	}
	secret := r.secrecy()
	return tree.Name{Text: r.newName(), Kind: tree.Variable, Secret: secret, Size: 1, Place: r.words}
}

func (r *reader) array() tree.Name {
	r.step()
	secret := r.secrecy()
	text := r.newName()
	return tree.Name{Text: text, Kind: tree.Array, Secret: secret, Size: r.size(), Place: r.words}
}

func (r *reader) secrecy() bool {
	word := r.take(func(word string) bool { return word == "public" || word == "secret" })
	return word == "secret"
}

func (r *reader) size() int { return valueOf(r.take(isSize)) }

// newName reads a Name that must not be seen yet.
func (r *reader) newName() string {
	at := r.token.at
	text := r.take(isName)
	if _, seen := r.find(text); seen {
		r.fail(api.ErrTwice, at)
	}
	return text
}

// knownName reads a Name that must be seen, and fit its place.
func (r *reader) knownName(fits func(tree.Name) bool) tree.Name {
	at := r.token.at
	name, seen := r.find(r.take(isName))
	if !seen || !fits(name) {
		r.fail(api.ErrName, at)
	}
	return name
}

func (r *reader) find(text string) (tree.Name, bool) {
	i := slices.IndexFunc(r.names, func(name tree.Name) bool { return name.Text == text })
	if i < 0 {
		return tree.Name{}, false
	}
	return r.names[i], true
}

func (r *reader) dos() []tree.Do {
	var dos []tree.Do
	for r.token.text == opening {
		dos = append(dos, inBrackets(r, r.do))
	}
	return dos
}

func (r *reader) do(at int) tree.Do {
	switch r.token.text {
	case "set":
		return r.set(at)
	case "put":
		return r.put(at)
	case "if":
		return r.branch(at)
	case "for":
		return r.loop(at)
	}
	r.failHere(api.ErrSyntax)
	return nil
}

func (r *reader) set(at int) tree.Do {
	r.step()
	name := r.knownName(tree.Name.CanBeSet)
	return tree.Set{At: at, Name: name, Value: r.expr()}
}

func (r *reader) put(at int) tree.Do {
	r.step()
	array := r.knownName(tree.Name.HasWords)
	number := r.expr()
	return tree.Put{At: at, Array: array, Number: number, Value: r.expr()}
}

func (r *reader) branch(at int) tree.Do {
	r.step()
	question := r.expr()
	yes := inBrackets(r, r.side)
	return tree.If{At: at, Question: question, Yes: yes, No: inBrackets(r, r.side)}
}

// side reads what stands in one bracket of an `if`.
func (r *reader) side(int) []tree.Do { return r.dos() }

func (r *reader) loop(at int) tree.Do {
	if r.loops == api.MaxLoops {
		r.failHere(api.ErrDeep)
	}
	r.step()
	counter := tree.Name{Text: r.newName(), Kind: tree.Counter, Place: r.words + r.loops}
	rounds := r.expr()
	return tree.For{At: at, Counter: counter, Rounds: rounds, Body: r.body(counter)}
}

// body reads the Do's of a `for`; its counter is seen in them alone.
func (r *reader) body(counter tree.Name) []tree.Do {
	outside := r.names
	r.names = append(r.names, counter)
	r.loops++
	defer func() {
		r.names = outside
		r.loops--
	}()
	return r.dos()
}

func (r *reader) expr() tree.Expr {
	switch {
	case r.token.text == opening:
		return inBrackets(r, r.compound)
	case isNumber(r.token.text):
		return tree.Number{Value: valueOf(r.take(isNumber))}
	}
	return tree.Use{Name: r.knownName(tree.Name.CanBeRead)}
}

// compound reads what stands in the bracket of an Expr.
func (r *reader) compound(at int) tree.Expr {
	switch {
	case r.token.text == "get":
		return r.get(at)
	case r.token.text == "choose":
		return r.choose(at)
	case isOp(r.token.text):
		return r.operation(at)
	}
	r.failHere(api.ErrSyntax)
	return nil
}

func (r *reader) get(at int) tree.Expr {
	r.step()
	array := r.knownName(tree.Name.HasWords)
	return tree.Get{At: at, Array: array, Number: r.expr()}
}

func (r *reader) choose(at int) tree.Expr {
	r.step()
	question := r.expr()
	yes := r.expr()
	return tree.Choose{At: at, Question: question, Yes: yes, No: r.expr()}
}

func (r *reader) operation(at int) tree.Expr {
	op := r.take(isOp)[0]
	left := r.expr()
	return tree.Operation{At: at, Op: op, Left: left, Right: r.expr()}
}

// valueOf is the value of a word of at most nine digits; of a word that was refused it does not matter.
func valueOf(word string) int {
	value, err := strconv.Atoi(word)
	if err != nil {
		return 0
	}
	return value
}
