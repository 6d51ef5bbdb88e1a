package symbols

import (
	"slices"

	"gristmill/api"
)

func Right(g api.Grammar) bool {
	return hasRightNumbers(g) && hasRightNames(g) && hasRightSymbols(g) && hasRightProds(g)
}

func hasRightNumbers(g api.Grammar) bool {
	return isFrom(1, g.Terms, api.MaxSymbols) &&
		isFrom(2, len(g.Symbols)-g.Terms, api.MaxSymbols) &&
		isFrom(1, len(g.Prods), api.MaxProds)
}

func isFrom(least, n, most int) bool { return least <= n && n <= most }

func hasRightNames(g api.Grammar) bool {
	names := map[string]int{}
	for i, s := range g.Symbols {
		names[s.Name] = i
	}
	_, empty := names[""]
	return !empty && len(names) == len(g.Symbols)
}

func hasRightSymbols(g api.Grammar) bool {
	if g.Symbols[0] != (api.Symbol{Name: endName}) || g.Symbols[g.Terms] != (api.Symbol{Name: acceptName}) {
		return false
	}
	for i, s := range g.Symbols {
		if s.Type != "" && !isType(s.Type) || !bindsRight(s, i < g.Terms) {
			return false
		}
	}
	return true
}

func bindsRight(s api.Symbol, isTerminal bool) bool {
	if s.Level == 0 {
		return s.Assoc == api.AssocNone
	}
	return isTerminal && s.Level > 0 && (s.Assoc == api.AssocLeft || s.Assoc == api.AssocRight || s.Assoc == api.AssocNon)
}

func hasRightProds(g api.Grammar) bool {
	if !isRightStart(g, g.Prods[0]) {
		return false
	}
	for _, p := range g.Prods[1:] {
		if !isRightProd(g, p) {
			return false
		}
	}
	return true
}

func isRightStart(g api.Grammar, p api.Prod) bool {
	return p.Left == g.Terms && len(p.Right) == 1 && isRule(g, p.Right[0]) && p.Prec == -1 && hasNoAction(p)
}

func isRightProd(g api.Grammar, p api.Prod) bool {
	isNoPart := func(n int) bool { return !isTerm(g, n) && !isRule(g, n) }
	return isRule(g, p.Left) && len(p.Right) <= api.MaxRight && !slices.ContainsFunc(p.Right, isNoPart) &&
		(p.Prec == -1 || isTerm(g, p.Prec)) && (p.Has && p.Where >= 0 || hasNoAction(p))
}

func hasNoAction(p api.Prod) bool { return !p.Has && p.Action == "" && p.Where == 0 }
