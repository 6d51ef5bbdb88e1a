package write_test

import (
	"math/rand"
	"reflect"
	"slices"
	"strings"
	"testing"

	"gristmill/api"
	"gristmill/lex"
	"gristmill/read"
	"gristmill/write"
)

// maker makes texts up.
type maker struct{ *rand.Rand }

func (m maker) one(of ...string) string { return of[m.Intn(len(of))] }

func (m maker) name() string { return m.one(someNames()...) }

// names are so many at least.
func (m maker) names(least int) []string {
	var out []string
	for len(out) < least || m.Intn(3) > 0 {
		out = append(out, m.name())
	}
	return out
}

func (m maker) text(most int) api.Text {
	var t api.Text
	for range m.Intn(most + 1) {
		t.Decls = append(t.Decls, m.decl())
	}
	for range m.Intn(most + 1) {
		t.Rules = append(t.Rules, m.rule())
	}
	return t
}

func (m maker) decl() api.Decl {
	d := decl(m.one(kinds()...), "", m.names(1)...)
	if may, must := mayHave(d.Kind); must || may && m.Intn(2) == 0 {
		d.Type = m.name()
	}
	return d
}

func (m maker) rule() api.Rule {
	r := rule(m.name(), m.alt())
	if m.Intn(2) == 0 {
		r.Params = m.names(0)
	}
	for m.Intn(2) == 0 {
		r.Alts = append(r.Alts, m.alt())
	}
	return r
}

func (m maker) alt() api.Alt {
	var a api.Alt
	for m.Intn(3) > 0 {
		a.Words = append(a.Words, m.word(60))
	}
	if m.Intn(3) == 0 {
		a.Prec = m.name()
	}
	if m.Intn(3) == 0 {
		a = act(a, m.one(actions()...))
	}
	return a
}

// word is made with how many words may still stand in one another.
func (m maker) word(left int) api.Word {
	w := word(m.name())
	for left > 0 && m.Intn(5) < 2 {
		w.Args = append(w.Args, m.word(left-1))
	}
	return w
}

func TestMadeUpTexts(t *testing.T) {
	for seed := range 5000 {
		m := maker{rand.New(rand.NewSource(int64(seed)))}
		if x := m.text(seed % 7); !byTheBook(t, x) {
			t.Errorf("%s is refused", short(bookText(x)))
		}
	}
}

// spoil puts something else into one place of a text; it tells of none that it found no place.
func (m maker) spoil(x *api.Text) bool {
	all := names(x)
	if len(all) == 0 {
		return false
	}
	switch name := all[m.Intn(len(all))]; m.Intn(5) {
	case 0, 1:
		*name = m.one(noNames()...)
	case 2:
		*name = m.one(someNames()...)
	case 3:
		if len(x.Decls) == 0 {
			return false
		}
		x.Decls[m.Intn(len(x.Decls))].Kind = m.one(slices.Concat(kinds(), noKinds())...)
	default:
		if len(x.Rules) == 0 {
			return false
		}
		a := &x.Rules[m.Intn(len(x.Rules))].Alts[0]
		a.Has, a.Action = m.Intn(2) == 0, m.one(slices.Concat(actions(), noActions())...)
	}
	return true
}

// TestSpoiltTexts has made-up texts of which one place or two say something else.
func TestSpoiltTexts(t *testing.T) {
	some, none := 0, 0
	for seed := range 20000 {
		m := maker{rand.New(rand.NewSource(int64(seed)))}
		x := bare(m.text(seed % 5))
		if !m.spoil(&x) || seed%2 == 0 && !m.spoil(&x) {
			continue
		}
		if byTheBook(t, x) {
			some++
		} else {
			none++
		}
	}
	if some < 1000 || none < 1000 {
		t.Errorf("%d may be written, %d may not", some, none)
	}
}

// sources are grammars with blanks, comments and line ends of all kinds.
func sources() []string {
	return []string{
		"%%", " // a\n%% // b", "%token<int>N;%%l(X):X|l(X)N%prec N{a};",
		"%token <int> NUM; %left PLUS;\n%%\ne: e PLUS e { $$ = $1 + $3 } | NUM ;",
		"%left A B;%type<T>e f;%start e;%%e:|f(a,g(b))|{ \"}\" };f(X,Y):%prec A;",
		"%start\ts\r\n; %% // {\ns\n:\n|{}|\n%prec\nP\n{//}\n}\n;\n",
		"%nonassoc A ; %right B C ; %token D ; %% a : b ( c ( d , e ( f ) , g ) , h ) i ( j ) ; k : l ;",
		"%%e:" + strings.Repeat("a(", 60) + "b" + strings.Repeat(")", 60) + ";",
		"%%l(a,b,c):;prec(prec):prec(prec)%prec prec{prec};",
		"%%\ne:\n\t;\n", "%%e:{\n\t}\n;", "%%e:a b|c\n\t|d;",
		"%token A;%%" + strings.Repeat("e:A;", 16380),
		"%token " + strings.Repeat("A ", 32700) + ";%%",
		"%%e:{" + strings.Repeat("a", 65000) + "};",
	}
}

// isWrittenAsRead reads a source: that may be written, as lines of just its tokens, which are read as the same, and written alike.
func isWrittenAsRead(t *testing.T, s string) bool {
	t.Helper()
	first, fault := read.Text(s)
	if fault != (api.Fault{}) {
		return false
	}
	lines, e := write.Text(first)
	if e != api.OK || lines != bookText(first) {
		t.Errorf("%s: %v %s", short(s), e, short(lines))
		return true
	}
	isReadBack(t, first, lines)
	if len(lines) > api.MaxSource {
		return true
	}
	if given, told := tokens(s), tokens(lines); !slices.Equal(given, told) {
		t.Errorf("%s: other tokens: %s", short(s), short(lines))
	}
	second, _ := read.Text(lines)
	again, e := write.Text(second)
	if third, fault := read.Text(again); e != api.OK || again != lines || fault != (api.Fault{}) || !reflect.DeepEqual(third, second) {
		t.Errorf("%s: written again as %v %s", short(lines), e, short(again))
	}
	return true
}

// tokens are those of a source, without places.
func tokens(s string) []api.Token {
	out, _ := lex.Tokens(s)
	for i := range out {
		out[i].At = 0
	}
	return out
}

func TestWhatWasReadIsWritten(t *testing.T) {
	for _, s := range sources() {
		if !isWrittenAsRead(t, s) {
			t.Errorf("%s is not read", short(s))
		}
	}
	for seed := range 5000 {
		m := maker{rand.New(rand.NewSource(int64(seed)))}
		var s strings.Builder
		for _, token := range tokens(bookText(m.text(seed % 5))) {
			s.WriteString(m.one(" ", "\n", "\t", "\r\n", " // %% }\n", "\n//\n"))
			s.WriteString(map[api.TokenKind]string{api.TokWord: "%", api.TokAction: "{"}[token.Kind] + token.Text + map[api.TokenKind]string{api.TokAction: "}"}[token.Kind])
		}
		if !isWrittenAsRead(t, s.String()) {
			t.Errorf("%s is not read", short(s.String()))
		}
	}
}

// TestWhatWasReadOfMixedSources has sources of pieces, of which some are read.
func TestWhatWasReadOfMixedSources(t *testing.T) {
	chance, some := rand.New(rand.NewSource(2)), 0
	pieces := strings.Split("a~b~ ~ ~\n~,~|~|~(b)~(b,c)~{}~{\"}\"}~{ a }~%prec P~;e:~;e(X):~;f:~// a\n~;", "~")
	for range 100000 {
		s := []string{"%%e:", "%left A;%%e(X):", "%token<int>A;\n%type<T>e;%%e:"}[chance.Intn(3)]
		for range chance.Intn(8) {
			s += pieces[chance.Intn(len(pieces))]
		}
		if isWrittenAsRead(t, s+";") {
			some++
		}
	}
	if some < 5000 {
		t.Errorf("only %d are read", some)
	}
}
