package path

import "strings"

// place: where a star was met, to go back to. The glob's part stands behind the star, so that no such place is the zero one.
type place struct {
	glob int // where the glob goes on behind the star
	text int // up to where the star has run
}

// Glob: does a glob fit a text?
//
// Stars run as short as they can; the last one runs on when what stands behind it does not fit. What stands ahead of a ** is never gone back to: the ** may run as far as it likes, so the earliest end ahead of it serves best. Nor is a * ahead of another one: both are held up by the same /, so the earliest beginning of the last one serves best.
func Glob(glob, s string) bool {
	var one, two place // the last *, if no ** stands behind it, and the last **
	g, at := 0, 0
on:
	rest := glob[g:]
	switch {
	case strings.HasPrefix(rest, "**"):
		g += 2
		one, two = place{}, place{g, at}
		goto on
	case strings.HasPrefix(rest, "*"):
		g++
		one = place{g, at}
		goto on
	case at == len(s): // a star that runs on leaves still less of the text
		return rest == ""
	case rest != "" && fits(rest[0], s[at]):
		g++
		at++
		goto on
	case one.glob > 0 && s[one.text] != '/':
		one.text++
		g, at = one.glob, one.text
		goto on
	case two.glob == 0:
		return false
	case one.glob > 0:
		// Between the two stars lies a fixed number of /, so the * gets past the one that held it up only if the ** runs past one as well.
		two.text += strings.IndexByte(s[two.text:], '/') + 1
	default:
		two.text++
	}
	one = place{}
	g, at = two.glob, two.text
	goto on
}

// fits: does a byte of a glob that is no star fit a byte of a text?
func fits(g, b byte) bool {
	if g == '?' {
		return b != '/'
	}
	return g == b
}
