package run

// word is a word of a program. What an Op does with two of them is a method, so that a table can name it.
type word int

func (w word) plus(other word) word { return w + other }

func (w word) minus(other word) word { return w - other }

func (w word) times(other word) word { return w * other }

// over leans on the language for the least word by -1: it is itself there, too.
func (w word) over(other word) word {
	if other == 0 {
		return 0
	}
	return w / other
}

func (w word) and(other word) word { return w & other }

func (w word) xor(other word) word { return w ^ other }

func (w word) less(other word) word { return truth(w < other) }

func (w word) equal(other word) word { return truth(w == other) }

func truth(so bool) word {
	if so {
		return 1
	}
	return 0
}

// modulo is never below 0, unlike the language's remainder.
func (w word) modulo(size word) word { return (w%size + size) % size }

type operation func(left, right word) word

// operations is the table of what each Op does, by its byte: as long as there are bytes, so that none lies outside.
func operations() [256]operation {
	return [256]operation{
		'+': word.plus,
		'-': word.minus,
		'*': word.times,
		'/': word.over,
		'&': word.and,
		'^': word.xor,
		'<': word.less,
		'=': word.equal,
	}
}
