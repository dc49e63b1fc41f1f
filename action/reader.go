package action

import "brickyard/api"

// reader reads bodies, one in another.
type reader struct {
	next  func() (words []string, at int, more bool)
	count int // the statements that were read
}

// taker answers what takes the lines one by one, each with its number; behind the last one it tells how many there are, and false.
func taker(lines [][]string) func() ([]string, int, bool) {
	taken := 0
	return func() ([]string, int, bool) {
		if taken == len(lines) {
			return nil, taken, false
		}
		taken++
		return lines[taken-1], taken - 1, true
	}
}

// body reads the statements up to the end of the innermost of so many open bodies; where none is open, up to the end of the lines.
func (r *reader) body(open int) ([]api.Stmt, api.Spot) {
	var list []api.Stmt
reading:
	for {
		words, at, more := r.next()
		s, ok := readLine(words)
		switch {
		case more && !ok:
			return nil, api.Spot{Err: api.ErrStmt, At: at}
		case more && s.Op == opEnd && open == 0, !more && open > 0:
			return nil, api.Spot{Err: api.ErrEnd, At: at}
		case !more || s.Op == opEnd:
			break reading
		case r.count == api.MaxStmts:
			return nil, api.Spot{Err: api.ErrLong, At: at}
		case open == api.MaxNest && kinds[s.Op].body:
			return nil, api.Spot{Err: api.ErrDeep, At: at}
		}
		r.count++
		if kinds[s.Op].body {
			inner, spot := r.body(open + 1)
			if spot.Err != api.OK {
				return nil, spot
			}
			s.Body = inner
		}
		list = append(list, s)
	}
	return list, api.Spot{}
}
