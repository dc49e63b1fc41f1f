package action

import (
	"slices"

	"brickyard/api"
)

// deepest is how many bodies in bodies Size, Deep and Same go into: as many as may be handed in at all. A list that holds itself would have no end.
const deepest = 1 << 16

// May: may a list of statements be?
func May(l []api.Stmt) bool {
	left := api.MaxStmts
	return may(l, api.MaxNest, &left)
}

// may asks no more statements than are left, and goes into no more bodies than further says, so that it is soon done with whatever list.
func may(l []api.Stmt, further int, left *int) bool {
	for _, s := range l {
		if *left == 0 || !mayAlone(s) {
			return false
		}
		*left--
		if kinds[s.Op].body && (further == 0 || !may(s.Body, further-1, left)) {
			return false
		}
	}
	return true
}

// mayAlone: is a statement as the table says? What is in its body is not asked here.
func mayAlone(s api.Stmt) bool {
	if s.Op <= opEnd || s.Op >= len(kinds) {
		return false
	}
	k := kinds[s.Op]
	return k.takes(len(s.Args)) && (s.N == 0 || k.number && mayNumber(s.N)) && (k.body || len(s.Body) == 0)
}

// Same: the same statements?
func Same(a, b []api.Stmt) bool { return same(a, b, deepest) }

func same(a, b []api.Stmt, further int) bool {
	return slices.EqualFunc(a, b, func(x, y api.Stmt) bool {
		return x.Op == y.Op && x.N == y.N && slices.Equal(x.Args, y.Args) && (further == 0 || same(x.Body, y.Body, further-1))
	})
}

// Size: how many statements there are.
func Size(l []api.Stmt) int { return size(l, deepest) }

func size(l []api.Stmt, further int) int {
	n := len(l)
	for _, s := range l {
		if further > 0 {
			n += size(s.Body, further-1)
		}
	}
	return n
}

// Deep: how deep bodies stand in bodies.
func Deep(l []api.Stmt) int { return deep(l, deepest) }

func deep(l []api.Stmt, further int) int {
	n := 0
	for _, s := range l {
		if further > 0 && bodied(s) {
			n = max(n, 1+deep(s.Body, further-1))
		}
	}
	return n
}

// bodied: has a statement a body? One of a kind that wants a body has it, though it be empty: its lines are there all the same. Of another kind, which may not be, it has what stands in its field.
func bodied(s api.Stmt) bool {
	wants := s.Op > opEnd && s.Op < len(kinds) && kinds[s.Op].body
	return wants || len(s.Body) > 0
}
