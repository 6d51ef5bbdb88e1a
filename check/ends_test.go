package check_test

import (
	"strings"
	"testing"

	"gristmill/api"
)

// ends tells of statements whether they end all, in a function with a result: then it may be; else ErrReturn stands at it.
func ends(t *testing.T, statements string, is bool) {
	t.Helper()
	for _, results := range []string{"int", "(int, string)"} {
		of := statements
		if results != "int" {
			of = strings.ReplaceAll(of, "return 1", "return two()")
		}
		head := given + "func g() { }; "
		body := "func f(n int, b bool) " + results + " { " + of + "\n}"
		if is {
			passes(t, head+body)
		} else {
			fails(t, head+"^"+body+"; func h() { undeclared() }", api.ErrReturn, "Func:f")
		}
	}
	if !strings.Contains(statements, "return 1") {
		passes(t, given+"func f(n int, b bool) { "+statements+"\n}")
	}
}

// P7.4: endings and others are statements that end all, and some that do not.
var endings = []string{
	"return 1", "panic(\"a\")", "n = 1; return 1", "{ return 1 }", "{ { n = 2; panic(\"a\") } }", "for { }", "for { n = 1 }", "for { continue }", "a: for { continue a }",
	"if b { return 1 } else { panic(\"a\") }", "if b { return 1 } else if b { return 1 } else { return 1 }", "if b { for { } } else { { return 1 } }",
	"switch n { default: return 1 }", "switch n { case 1: return 1\n default: panic(\"a\")\n case 2: for { } }", "switch n { case 1: { return 1 }\n case 2: if b { return 1 } else { return 1 }\n default: switch b { default: return 1 } }",
	"for { for { break } }", "for { switch n { case 1: break\n } }", "a: for { for { break }; continue a }", "for { for b { for { break } } }", "for { if b { return 1 } }",
	"switch n { case 1: for { break }; return 1\n default: return 1 }", "switch n { default: switch n { case 1: break\n }; return 1 }",
	"for { a: for { break a } }", "for { a: for { for { break a } } }", "switch n { default: a: for { for { break a } }; return 1 }", "a: for { switch n { case 1: continue a\n } }",
	"a: for { switch n { default: a2: for { break a2 } }; continue a }", "switch n { default: a: for { switch n { case 1: break a\n } }; return 1 }", "return 1; return 1", "n = 1; { }; return 1",
	"a: for b { switch n { default: break a } }; return 1", "for { switch n { default: break } }", "switch n { case 1: return 1\n default: for { break }; return 1 }",
}

var others = []string{
	"", "n = 1", "{ }", "{ n = 1 }", "return 1; n = 1", "panic(\"a\"); n = 1", "return 1; { }", "{ return 1 }; n = 1", "none()", "one()", "var c int; c = c", "c, d := two(); n = c; d = d", "for { }; n = 1",
	"for b { }", "for true { }", "for b { return 1 }", "for { break }", "for { if b { break } }", "for { { break } }", "for { if b { } else { break } }", "for { if b { } else if b { break } }", "for { n = 1; break; n = 2 }", "for { return 1; break }",
	"a: for { break a }", "a: for { for { break a } }", "a: for { switch n { case 1: break a\n } }", "a: for { for b { switch n { default: if b { break a } } } }", "a: for { continue a; break }", "a: for b { continue a }", "a: for { c: for { continue c; break a } }",
	"if b { return 1 }", "if b { return 1 } else { }", "if b { } else { return 1 }", "if b { return 1 } else { n = 1 }", "if b { return 1 } else if b { return 1 }", "if b { return 1 } else if b { return 1 } else { }", "if b { return 1 } else if b { } else { return 1 }", "if b { } else if b { return 1 } else { return 1 }", "if true { return 1 }",
	"switch n { }", "switch n { case 1: return 1\n }", "switch n { default: }", "switch n { case 1: return 1\n case 2: return 1\n }", "switch n { case 1: return 1\n default: n = 1 }", "switch n { case 1: n = 1\n default: return 1 }", "switch n { default: return 1\n case 1: }", "switch b { case true: return 1\n case false: return 1\n }",
	"switch n { case 1: break\n default: return 1 }", "switch n { case 1: if b { break }; return 1\n default: return 1 }", "switch n { case 1: return 1\n default: if b { { break } }; return 1 }", "switch n { default: break }", "switch n { default: return 1; break }",
	"switch n { default: for { break }; switch n { case 1: break\n } }", "a: for { switch n { default: break a } }", "for b { switch n { default: return 1 } }", "for { switch n { default: return 1 }; break }",
	"switch n { case 1: return 1; break\n default: return 1 }", "continuing := 1; n = continuing", "for { for { break }; break }", "for { switch n { case 1: break\n }; if b { break } }",
}

func TestToEndAll(t *testing.T) {
	t.Parallel()
	for _, s := range endings {
		ends(t, s, true)
		ends(t, "if b { return 1 }; "+s, true)
		ends(t, s+"; n = n + 1", false)
		ends(t, s+"\nfor b { "+relabelled(s)+" }", false)
	}
	for _, s := range others {
		ends(t, s, false)
		ends(t, strings.TrimPrefix(s+"; return 1", "; "), true)
		ends(t, strings.TrimPrefix(s+"; for { }", "; "), true)
	}
}

// relabelled has other labels.
func relabelled(s string) string {
	return strings.NewReplacer("a:", "z:", "break a", "break z", "continue a", "continue z", "a2", "z2").Replace(s)
}

// TestToEndAllWithin has each ending and each other where one of a statement's blocks is asked.
func TestToEndAllWithin(t *testing.T) {
	t.Parallel()
	for _, around := range []string{"{ @ }", "{ n = 2; { @ } }", "if b { @ } else { return 1 }", "if b { return 1 } else { @ }", "if b { return 1 } else if b { @ } else { panic(\"a\") }", "if b { return 1 } else if b { return 1 } else { @ }"} {
		for _, s := range endings {
			ends(t, strings.Replace(around, "@", s, 1), true)
		}
		for _, s := range others {
			ends(t, strings.Replace(around, "@", s, 1), false)
		}
	}
	for _, around := range []string{"switch n { default: @\n }", "switch n { case 1: return 1\n default: @\n case 2: return 1\n }", "switch n { case 1: @\n default: return 1 }", "switch n { default: return 1\n case 1, 2, 3: @\n }"} {
		for _, s := range endings {
			ends(t, strings.Replace(around, "@", s, 1), true)
		}
		for _, s := range others {
			ends(t, strings.Replace(around, "@", s, 1), false)
		}
	}
}

// TestReturnIsAskedLast: what is in the body is asked ahead of it, and of the bodies behind.
func TestReturnIsAskedLast(t *testing.T) {
	t.Parallel()
	fails(t, "package p; func f() int { ^x := 1 }", api.ErrUnused, "Name:x")
	fails(t, "package p; func f() int { ^undeclared() }", api.ErrName, "Call:undeclared")
	fails(t, "package p; ^func f() int { }; func g() { undeclared() }", api.ErrReturn, "Func:f")
	fails(t, "package p; func g() { ^undeclared() }; func f() int { }", api.ErrName, "Call:undeclared")
	fails(t, "package p; func e() { }; ^func f(a int, b bool) (bool, int) { }; func g() int { }", api.ErrReturn, "Func:f")
}
