package scan

import (
	"strings"

	"gristmill/api"
)

// pairs are, by the byte behind the \, the bytes that they say.
func pairs() map[byte]byte {
	return map[byte]byte{'n': '\n', 't': '\t', 'r': '\r', '\\': '\\', '"': '"'}
}

func Quote(s string) string {
	paired := map[byte]byte{}
	for second, says := range pairs() {
		paired[says] = second
	}
	var b strings.Builder
	b.WriteByte('"')
	for i := range len(s) {
		if second, ok := paired[s[i]]; ok {
			b.WriteByte('\\')
			b.WriteByte(second)
		} else if isPlain(s[i]) {
			b.WriteByte(s[i])
		} else {
			b.WriteString(inDigits16(s[i]))
		}
	}
	b.WriteByte('"')
	return b.String()
}

func inDigits16(c byte) string {
	const digits = "0123456789abcdef"
	return string([]byte{'\\', 'x', digits[c>>4], digits[c&15]})
}

func (s *scanner) readString() {
	var says strings.Builder
	s.step(1)
	for s.look(0) != '"' {
		says.WriteByte(s.readSaid())
	}
	s.step(1)
	s.put(api.TokString, says.String())
}

// readSaid tells what the next byte, or pair, of a string says.
func (s *scanner) readSaid() byte {
	c := s.take()
	if c == '\\' {
		return s.readPair()
	}
	s.must(isPlain(c))
	return c
}

func (s *scanner) readPair() byte {
	second := s.take()
	if second == 'x' {
		high := s.readDigit16()
		return high<<4 | s.readDigit16()
	}
	says, ok := s.pairs[second]
	s.must(ok)
	return says
}

func (s *scanner) readDigit16() byte {
	c := s.take()
	switch {
	case isDigit(c):
		return c - '0'
	case 'a' <= c && c <= 'f':
		return c - 'a' + 10
	case 'A' <= c && c <= 'F':
		return c - 'A' + 10
	}
	s.refuse(api.ErrToken)
	return 0
}

// isPlain tells the bytes that say themselves.
func isPlain(c byte) bool {
	return ' ' <= c && c <= '~' && c != '"' && c != '\\'
}
