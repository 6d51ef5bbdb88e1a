package expand_test

import (
	"slices"
	"strings"

	"gristmill/api"
)

// What the document's words say, as plainly as they do.

func bookName(w api.Word) string {
	if len(w.Args) == 0 {
		return w.Name
	}
	var texts []string
	for _, a := range w.Args {
		texts = append(texts, bookName(a))
	}
	return w.Name + "(" + strings.Join(texts, ",") + ")"
}

func bookDeep(w api.Word) int {
	deep := 1
	for _, a := range w.Args {
		deep = max(deep, bookDeep(a)+1)
	}
	return deep
}

// book is a text's rules, and the words that are wanted, in their order.
type book struct {
	rules  []api.Rule
	wanted []api.Word
}

func (b *book) rule(name string) (api.Rule, bool) {
	at := slices.IndexFunc(b.rules, func(r api.Rule) bool { return r.Name == name })
	if at < 0 {
		return api.Rule{}, false
	}
	return b.rules[at], true
}

func (b *book) template(name string) bool {
	r, is := b.rule(name)
	return is && len(r.Params) > 0
}

// resolve is told which names stand for words, and for which ones.
func (b *book) resolve(w api.Word, names []string, words []api.Word) (api.Word, api.Fault) {
	params := api.Fault{Err: api.ErrParams, At: w.At}
	if at := slices.Index(names, w.Name); at >= 0 {
		if len(w.Args) > 0 {
			return api.Word{}, params
		}
		return words[at], api.Fault{}
	}
	r, is := b.rule(w.Name)
	if !is {
		if len(w.Args) > 0 {
			return api.Word{}, params
		}
		return w, api.Fault{}
	}
	if len(w.Args) != len(r.Params) {
		return api.Word{}, params
	}
	resolved := api.Word{Name: w.Name}
	for _, a := range w.Args {
		one, f := b.resolve(a, names, words)
		if f.Err != api.OK {
			return api.Word{}, f
		}
		resolved.Args = append(resolved.Args, one)
	}
	if len(r.Params) == 0 {
		return resolved, api.Fault{}
	}
	return resolved, b.want(resolved, w.At)
}

func (b *book) want(w api.Word, at int) api.Fault {
	if bookDeep(w) > 8 {
		return api.Fault{Err: api.ErrDeep, At: at}
	}
	if len(bookName(w)) > 1000 {
		return api.Fault{Err: api.ErrLong, At: at}
	}
	if !slices.ContainsFunc(b.wanted, func(ahead api.Word) bool { return bookName(ahead) == bookName(w) }) {
		b.wanted = append(b.wanted, w)
	}
	return api.Fault{}
}

func (b *book) twice() api.Fault {
	for i, r := range b.rules {
		if slices.ContainsFunc(b.rules[:i], func(ahead api.Rule) bool { return ahead.Name == r.Name }) {
			return api.Fault{Err: api.ErrTwice, At: r.At}
		}
		for n, name := range r.Params {
			if slices.Contains(r.Params[:n], name) {
				return api.Fault{Err: api.ErrTwice, At: r.At}
			}
		}
	}
	return api.Fault{}
}

func (b *book) tell(r api.Rule, name string, words []api.Word) (api.Rule, api.Fault) {
	told := api.Rule{Name: name, At: r.At}
	for _, a := range r.Alts {
		alt := api.Alt{Prec: a.Prec, Has: a.Has, Action: a.Action, Where: a.Where, At: a.At}
		for _, w := range a.Words {
			one, f := b.resolve(w, r.Params, words)
			if f.Err != api.OK {
				return api.Rule{}, f
			}
			alt.Words = append(alt.Words, api.Word{Name: bookName(one), At: w.At})
		}
		told.Alts = append(told.Alts, alt)
	}
	return told, api.Fault{}
}

func bookFlat(t api.Text) (api.Text, api.Fault) {
	b := book{rules: t.Rules}
	if f := b.twice(); f.Err != api.OK {
		return api.Text{}, f
	}
	var told api.Text
	tell := func(r api.Rule, name string, words []api.Word) api.Fault {
		if len(told.Rules) == 128 {
			return api.Fault{Err: api.ErrMany}
		}
		one, f := b.tell(r, name, words)
		told.Rules = append(told.Rules, one)
		return f
	}
	for _, r := range t.Rules {
		if len(r.Params) > 0 {
			continue
		}
		if f := tell(r, r.Name, nil); f.Err != api.OK {
			return api.Text{}, f
		}
	}
	for i := 0; i < len(b.wanted); i++ {
		w := b.wanted[i]
		r, _ := b.rule(w.Name)
		if f := tell(r, bookName(w), w.Args); f.Err != api.OK {
			return api.Text{}, f
		}
	}
	for _, d := range t.Decls {
		told.Decls = append(told.Decls, b.decl(d))
	}
	return told, api.Fault{}
}

func (b *book) decl(d api.Decl) api.Decl {
	told := api.Decl{Kind: d.Kind, Type: d.Type, At: d.At}
	for _, name := range d.Names {
		if d.Kind != "type" || !b.template(name) {
			told.Names = append(told.Names, name)
			continue
		}
		for _, w := range b.wanted {
			if w.Name == name {
				told.Names = append(told.Names, bookName(w))
			}
		}
	}
	return told
}
