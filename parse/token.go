package parse

import (
	"strings"

	"mute/api"
)

const (
	opening = "("
	closing = ")"
	ending  = "" // stands behind the last token; no word is empty
)

// token is a word or a bracket, and where its first byte stands.
type token struct {
	text string
	at   int
}

// scan finds the first token that begins at from or behind it.
func scan(text string, from int) token {
	at := from
	for at < len(text) && isBlank(text[at]) {
		at++
	}
	return token{text[at:endOfToken(text, at)], at}
}

func endOfToken(text string, at int) int {
	end := at
	for end < len(text) && !isBlank(text[end]) && !isBracket(text[end]) {
		end++
	}
	if end == at && end < len(text) {
		end++ // a bracket is a token of one byte, whatever stands beside it
	}
	return end
}

func isBlank(b byte) bool { return b == ' ' || b == '\n' }

func isBracket(b byte) bool { return b == '(' || b == ')' }

func isLetter(b byte) bool { return 'a' <= b && b <= 'z' }

func isDigit(b byte) bool { return '0' <= b && b <= '9' }

// isMadeOf tells whether a word has 1 to most bytes, each of which fits.
func isMadeOf(word string, most int, fits func(byte) bool) bool {
	if len(word) < 1 || len(word) > most {
		return false
	}
	for i := range len(word) {
		if !fits(word[i]) {
			return false
		}
	}
	return true
}

func isName(word string) bool {
	return isMadeOf(word, 6, isLetter) && !isKeyword(word)
}

func isNumber(word string) bool {
	return isMadeOf(strings.TrimPrefix(word, "-"), 9, isDigit)
}

func isSize(word string) bool {
	return isMadeOf(word, 1, isDigit) && '1' <= word[0] && word[0] <= '0'+api.MaxArray
}

func isOp(word string) bool {
	return len(word) == 1 && strings.Contains("+-*/&^<=", word)
}

func beginsDecl(word string) bool {
	return word == "public" || word == "secret" || word == "array"
}

func isKeyword(word string) bool {
	switch word {
	case "set", "put", "if", "for", "get", "choose":
		return true
	}
	return beginsDecl(word)
}
