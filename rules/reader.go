package rules

import (
	"slices"

	"brickyard/api"
)

// read: the item that a line says, without its code. The lines of a rule's code are taken with the rule, so that an indented line that comes here belongs to none.
func read(l api.Line) (api.RuleItem, api.Where) {
	first := l.Words[0]
	if l.Indented || first.Quoted {
		return wrong(api.ErrItem, first)
	}
	switch first.Text {
	case "let":
		return readLet(l)
	case "include":
		return readInclude(l)
	case "rule":
		return readRule(l)
	}
	return wrong(api.ErrItem, first)
}

// wrong: no item, for that word.
func wrong(e api.Errno, w api.Word) (api.RuleItem, api.Where) {
	return api.RuleItem{}, api.Where{Err: e, Line: w.Line, Col: w.Col}
}

// firstMark: which of the words is the first mark; how many they are, if none is one.
func firstMark(words ...api.Word) int {
	for i, w := range words {
		if w.Mark {
			return i
		}
	}
	return len(words)
}

func readLet(l api.Line) (api.RuleItem, api.Where) {
	w := l.Words
	switch {
	case len(w) > 1 && (w[1].Quoted || !Name(w[1].Text)):
		return wrong(api.ErrVar, w[1])
	case len(w) < 3:
		return wrong(api.ErrItem, w[len(w)-1])
	case !w[2].Mark || w[2].Text != "=":
		return wrong(api.ErrItem, w[2])
	}
	if mark := 3 + firstMark(w[3:]...); mark < len(w) {
		return wrong(api.ErrItem, w[mark])
	}
	return api.RuleItem{Kind: api.ItemLet, Line: l.Number, Name: w[1].Text, Words: slices.Clone(w[3:])}, api.Where{}
}

func readInclude(l api.Line) (api.RuleItem, api.Where) {
	w := l.Words
	switch {
	case len(w) == 1:
		return wrong(api.ErrItem, w[0])
	case w[1].Mark:
		return wrong(api.ErrItem, w[1])
	case len(w) > 2:
		return wrong(api.ErrItem, w[2])
	}
	return api.RuleItem{Kind: api.ItemInclude, Line: l.Number, Words: slices.Clone(w[1:])}, api.Where{}
}

func readRule(l api.Line) (api.RuleItem, api.Where) {
	w := l.Words
	mark := 1 + firstMark(w[1:]...)
	switch {
	case mark == len(w):
		return wrong(api.ErrItem, w[len(w)-1])
	case mark == 1 || w[mark].Text != ":":
		return wrong(api.ErrItem, w[mark])
	}
	targets, deps := w[1:mark], w[mark+1:]
	if second := firstMark(deps...); second < len(deps) {
		return wrong(api.ErrItem, deps[second])
	}
	return api.RuleItem{Kind: api.ItemRule, Line: l.Number, Targets: slices.Clone(targets), Words: slices.Clone(deps)}, api.Where{}
}
