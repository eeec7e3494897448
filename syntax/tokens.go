package syntax

import "iter"

// token is a token of a text, with its offset; that of the end of the text is empty.
type token struct {
	text string
	at   int
}

// tokens yields the tokens of a text from an offset on, and then its end.
func tokens(s string, from int) iter.Seq[token] {
	return func(yield func(t token) bool) {
		for at := from; ; {
			for at < len(s) && s[at] == ' ' {
				at++
			}
			t := token{text: s[at : at+length(s[at:])], at: at}
			if !yield(t) || t.text == "" {
				return
			}
			at += len(t.text)
		}
	}
}

// length returns the length of the token with which a text begins.
func length(s string) int {
	switch {
	case s == "":
		return 0
	case isWord(s):
		return run(s, inWord)
	case isNumber(s):
		return run(s, inNumber)
	}
	return 1
}

// run returns the number of bytes at the beginning of a text that are of some kind.
func run(s string, of func(b byte) bool) int {
	n := 0
	for n < len(s) && of(s[n]) {
		n++
	}
	return n
}

// isWord reports whether a text begins with a word.
func isWord(s string) bool {
	return s != "" && isLetter(s[0])
}

// isNumber reports whether a text begins with a number, which need not be well-formed.
func isNumber(s string) bool {
	return s != "" && (isDigit(s[0]) || s[0] == '-')
}

// inWord reports whether a word can go on with a byte.
func inWord(b byte) bool {
	return isLetter(b) || isDigit(b) || b == '-'
}

// inNumber reports whether a number can go on with a byte.
func inNumber(b byte) bool {
	return isDigit(b) || b == '/' || b == '.' || b == '-'
}

// isLetter reports whether a byte is a small letter.
func isLetter(b byte) bool {
	return 'a' <= b && b <= 'z'
}

// isDigit reports whether a byte is a digit.
func isDigit(b byte) bool {
	return '0' <= b && b <= '9'
}
