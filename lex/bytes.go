package lex

func isWord(s string) bool {
	switch s {
	case "token", "type", "left", "right", "nonassoc", "start", "prec":
		return true
	}
	return false
}

// isSign tells the signs of one byte; %% is the only longer one.
func isSign(c byte) bool {
	switch c {
	case ':', ';', '|', '(', ')', ',', '<', '>':
		return true
	}
	return false
}

func isBlank(c byte) bool { return c == 9 || c == lineEnd || c == 13 || c == 32 }

func isLetter(c byte) bool { return 'a' <= c && c <= 'z' || 'A' <= c && c <= 'Z' || c == '_' }

func isDigit(c byte) bool { return '0' <= c && c <= '9' }

func isOfName(c byte) bool { return isLetter(c) || isDigit(c) }
