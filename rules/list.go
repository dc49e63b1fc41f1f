package rules

import (
	"slices"

	"brickyard/api"
	"brickyard/lex"
)

// May: may a list of items be?
func May(l []api.RuleItem) bool {
	for _, x := range l {
		if !mayItem(x) || !mayWords(x.Targets) || !mayWords(x.Words) || !mayCode(x.Code) {
			return false
		}
	}
	return true
}

// mayItem: has an item what its kind wants, and nothing else? What the words are is not asked here.
func mayItem(x api.RuleItem) bool {
	switch x.Kind {
	case api.ItemLet:
		return Name(x.Name) && len(x.Targets) == 0 && len(x.Code) == 0
	case api.ItemInclude:
		return x.Name == "" && len(x.Targets) == 0 && len(x.Words) == 1 && len(x.Code) == 0
	case api.ItemRule:
		return x.Name == "" && len(x.Targets) > 0
	}
	return false
}

// mayWords: may these be targets, deps, values, a path?
func mayWords(words []api.Word) bool {
	if firstMark(words...) < len(words) {
		return false
	}
	for _, w := range words {
		if !readable(w) {
			return false
		}
	}
	return true
}

// mayCode: may these be a rule's code?
func mayCode(code []api.Line) bool {
	for _, l := range code {
		if !l.Indented || len(l.Words) == 0 {
			return false
		}
		for _, w := range l.Words {
			if !readable(w) {
				return false
			}
		}
	}
	return true
}

// readable: is a word read as it is, once it is written?
func readable(w api.Word) bool {
	if w.Mark {
		return !w.Quoted && (w.Text == ":" || w.Text == "=")
	}
	return w.Quoted || lex.Plain(w.Text)
}

// Same: the same items, but for numbers and places?
func Same(a, b []api.RuleItem) bool { return slices.EqualFunc(a, b, sameItem) }

func sameItem(a, b api.RuleItem) bool {
	return a.Kind == b.Kind && a.Name == b.Name && sameWords(a.Targets, b.Targets) && sameWords(a.Words, b.Words) && slices.EqualFunc(a.Code, b.Code, sameCode)
}

func sameCode(a, b api.Line) bool { return sameWords(a.Words, b.Words) }

func sameWords(a, b []api.Word) bool { return slices.EqualFunc(a, b, sameWord) }

func sameWord(a, b api.Word) bool { return placeless(a) == placeless(b) }

func placeless(w api.Word) api.Word {
	w.Line, w.Col = 0, 0
	return w
}

// Print: items as a text.
func Print(l []api.RuleItem) (string, api.Errno) {
	if !May(l) {
		return "", api.ErrArg
	}
	var lines []api.Line
	for _, x := range l {
		lines = append(lines, api.Line{Words: ownWords(x)})
		lines = append(lines, x.Code...)
	}
	return lex.Write(lines), api.OK
}

// ownWords: the words of an item's own line. They are laid together in new memory: behind a list's end stands what is not the item's.
func ownWords(x api.RuleItem) []api.Word {
	switch x.Kind {
	case api.ItemLet:
		return slices.Concat([]api.Word{{Text: "let"}, {Text: x.Name}, {Text: "=", Mark: true}}, x.Words)
	case api.ItemInclude:
		return slices.Concat([]api.Word{{Text: "include"}}, x.Words)
	}
	return slices.Concat([]api.Word{{Text: "rule"}}, x.Targets, []api.Word{{Text: ":", Mark: true}}, x.Words)
}
