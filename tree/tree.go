// Package tree: a program as a tree, as it is handed from the package that reads it to those that use it.
package tree

// Kind tells what a name stands for.
type Kind int

const (
	Variable Kind = iota
	Array
	Counter
)

// Name is a name together with what it stands for, so that no later reader has to look it up.
type Name struct {
	Text   string
	Kind   Kind
	Secret bool
	Size   int // words of the program's memory; a counter has none there
	Place  int // of its first word there; counters lie behind that memory, each by the number of loops around its own
}

// CanBeSet tells whether a `set` may name it.
func (n Name) CanBeSet() bool { return n.Kind == Variable }

// CanBeRead tells whether it may stand as an Expr.
func (n Name) CanBeRead() bool { return n.Kind == Variable || n.Kind == Counter }

// HasWords tells whether a `get` or a `put` may name it.
func (n Name) HasWords() bool { return n.Kind == Array }

// Program is a whole program.
type Program struct {
	Names []Name // those declared, in their order
	Words int    // of its memory
	Dos   []Do
}

// Do is one of Set, Put, If and For. At is, in each of them, the place of its bracket in the text.
type Do interface{ isDo() }

type Set struct {
	At    int
	Name  Name
	Value Expr
}

type Put struct {
	At     int
	Array  Name
	Number Expr
	Value  Expr
}

type If struct {
	At       int
	Question Expr
	Yes, No  []Do
}

type For struct {
	At      int
	Counter Name
	Rounds  Expr
	Body    []Do
}

func (Set) isDo() {}
func (Put) isDo() {}
func (If) isDo()  {}
func (For) isDo() {}

// Expr is one of Number, Use, Get, Operation and Choose. At is the place of its bracket, where it has one.
type Expr interface {
	// Secret tells whether a secret variable, or a `get` of a secret array, stands in it.
	Secret() bool
}

type Number struct {
	Value int
}

// Use is a Name that stands as an Expr.
type Use struct {
	Name Name
}

type Get struct {
	At     int
	Array  Name
	Number Expr
}

type Operation struct {
	At          int
	Op          byte
	Left, Right Expr
}

type Choose struct {
	At       int
	Question Expr
	Yes, No  Expr
}

func (Number) Secret() bool { return false }

func (e Use) Secret() bool { return e.Name.Secret }

func (e Get) Secret() bool { return e.Array.Secret || e.Number.Secret() }

func (e Operation) Secret() bool { return e.Left.Secret() || e.Right.Secret() }

func (e Choose) Secret() bool {
	return e.Question.Secret() || e.Yes.Secret() || e.No.Secret()
}
