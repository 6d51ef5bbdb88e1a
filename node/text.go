package node

import (
	"strings"

	"gristmill/api"
)

const (
	mostDigits = 40
	mostDollar = 99
)

// operators are all that there are, and how many Kids each is between.
var operators = [...]struct {
	sign string
	kids int
}{
	{"-", 1}, {"!", 1},
	{"||", 2}, {"&&", 2},
	{"==", 2}, {"!=", 2}, {"<", 2}, {"<=", 2}, {">", 2}, {">=", 2},
	{"+", 2}, {"-", 2}, {"*", 2}, {"/", 2}, {"%", 2},
}

func (l look) hasItsText() bool {
	switch l.Kind {
	case api.NodeFile, api.NodeStruct, api.NodeField, api.NodeFunc, api.NodeType, api.NodeVar,
		api.NodeName, api.NodeCall, api.NodePart, api.NodeMake, api.NodeKey:
		return isName(l.Text)
	case api.NodeFor, api.NodeBreak, api.NodeContinue:
		return l.Text == "" || isName(l.Text)
	case api.NodeInt:
		return len(l.Text) <= mostDigits && isWhole(l.Text)
	case api.NodeFloat:
		return isFloat(l.Text)
	case api.NodeString:
		return true
	case api.NodeUnary:
		return isOperator(l.Text, 1)
	case api.NodeBinary:
		return isOperator(l.Text, 2)
	}
	return l.Text == ""
}

func (l look) hasItsNum() bool {
	switch l.Kind {
	case api.NodeDefine, api.NodeAssign:
		return l.Num >= 1
	case api.NodeBool:
		return l.Num == 0 || l.Num == 1
	case api.NodeDollar:
		return 0 <= l.Num && l.Num <= mostDollar
	}
	return l.Num == 0
}

func isOperator(s string, kids int) bool {
	for _, o := range operators {
		if o.sign == s && o.kids == kids {
			return true
		}
	}
	return false
}

func isName(s string) bool {
	if s == "" || s == "_" || len(s) > api.MaxName || isDigit(s[0]) || isTaken(s) {
		return false
	}
	for i := range len(s) {
		if !isLetter(s[i]) && !isDigit(s[i]) {
			return false
		}
	}
	return true
}

// isTaken tells the words that are no names.
func isTaken(s string) bool {
	switch s {
	case "break", "case", "chan", "const", "continue", "default", "defer", "else", "fallthrough",
		"false", "for", "func", "go", "goto", "if", "import", "interface", "map", "package",
		"range", "return", "select", "struct", "switch", "true", "type", "var":
		return true
	}
	return false
}

func isFloat(s string) bool {
	whole, part, ok := strings.Cut(s, ".")
	return ok && len(whole)+len(part) <= mostDigits && isWhole(whole) && isDigits(part)
}

func isWhole(s string) bool {
	return isDigits(s) && (s[0] != '0' || len(s) == 1)
}

func isDigits(s string) bool {
	for i := range len(s) {
		if !isDigit(s[i]) {
			return false
		}
	}
	return s != ""
}

func isDigit(c byte) bool { return '0' <= c && c <= '9' }

func isLetter(c byte) bool { return 'a' <= c && c <= 'z' || 'A' <= c && c <= 'Z' || c == '_' }
