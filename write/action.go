package write

import "strings"

// mustBeAction asks whether {, the text and } are one action. Its bytes are gone through here, as lex takes no more of them than a source has: an action may have any number.
func mustBeAction(text string) {
	open, left := 0, text
	for left != "" {
		mark := left[0]
		left = left[1:]
		switch mark {
		case '{':
			open++
		case '}':
			open--
		case '"':
			left = behindString(left)
		case '/':
			left = behindSlash(left)
		}
		must(open >= 0)
	}
	must(open == 0)
}

// behindString begins behind a string's first ", and tells what stands behind its last one.
func behindString(s string) string {
	for {
		at := strings.IndexAny(s, "\"\\\n")
		must(at >= 0 && s[at] != '\n')
		if s[at] == '"' {
			return s[at+1:]
		}
		must(at+1 < len(s))
		s = s[at+2:]
	}
}

// behindSlash lets a comment go by, if a second / makes it one. One that no line's end ends would have the action's own } in it.
func behindSlash(s string) string {
	comment, ok := strings.CutPrefix(s, "/")
	if !ok {
		return s
	}
	_, behind, ends := strings.Cut(comment, "\n")
	must(ends)
	return behind
}
