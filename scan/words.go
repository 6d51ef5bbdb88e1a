package scan

import (
	"slices"

	"gristmill/api"
)

func Words() []string {
	return []string{
		"break", "case", "continue", "default", "else", "for", "func", "if",
		"package", "return", "struct", "switch", "type", "var", "true", "false",
	}
}

func isWord(s string) bool { return slices.Contains(Words(), s) }

func isForeignWord(s string) bool {
	switch s {
	case "chan", "const", "defer", "fallthrough", "go", "goto", "import", "interface", "map", "range", "select":
		return true
	}
	return false
}

func isSign(s string) bool {
	switch s {
	case "{", "}", "(", ")", "[", "]", ",", ";", ":", ":=", ".", "=", "==", "!=", "<", "<=", ">", ">=",
		"+", "-", "*", "/", "%", "!", "&&", "||":
		return true
	}
	return false
}

func isForeignSign(s string) bool {
	switch s {
	case "++", "--", "+=", "-=", "*=", "/=", "%=", "<<", ">>", "<-", "/*", "...":
		return true
	}
	return false
}

func mayEndLine(t api.Token) bool {
	switch t.Kind {
	case api.TokName, api.TokInt, api.TokFloat, api.TokString, api.TokDollar:
		return true
	case api.TokWord:
		return isOneOf(t.Text, "break", "continue", "return", "true", "false")
	case api.TokSign:
		return isOneOf(t.Text, ")", "]", "}")
	}
	return false
}

func isOneOf(s string, texts ...string) bool { return slices.Contains(texts, s) }

func isBlank(c byte) bool { return c == 9 || c == 13 || c == 32 }

func isDigit(c byte) bool { return '0' <= c && c <= '9' }

func isLetter(c byte) bool { return 'a' <= c && c <= 'z' || 'A' <= c && c <= 'Z' || c == '_' }
