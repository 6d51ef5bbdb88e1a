package read

import (
	"slices"

	"gristmill/api"
)

// end is the text of the token behind all others.
const end = ""

// row is the tokens that were not read yet; the last one, which is the end, is never taken.
type row struct{ left []api.Token }

func (r *row) next() api.Token { return r.left[0] }

func (r *row) isNext(kind api.TokenKind) bool { return r.next().Kind == kind }

func (r *row) take() api.Token {
	t := r.next()
	r.left = r.left[1:]
	return t
}

// at tells whether one of these words and signs is next: a name, or an action, of such a text is none.
func (r *row) at(texts ...string) bool {
	t := r.next()
	return t.Kind != api.TokName && t.Kind != api.TokAction && slices.Contains(texts, t.Text)
}

func (r *row) takes(text string) bool {
	if !r.at(text) {
		return false
	}
	r.take()
	return true
}

func (r *row) need(texts ...string) api.Token {
	r.must(r.at(texts...))
	return r.take()
}

func (r *row) name() api.Token {
	r.must(r.isNext(api.TokName))
	return r.take()
}

// must refuses the next token, if it may not stand where it does.
func (r *row) must(ok bool) {
	if !ok {
		panic(api.Fault{Err: api.ErrSyntax, At: r.next().At})
	}
}
