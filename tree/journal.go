package tree

import (
	"slices"

	"brickyard/api"
)

// journal: how many changes there were, and the paths of the last ones.
type journal struct {
	changes int
	last    [api.JournalLen]string // it goes round: the change behind the mark n stands at n % JournalLen
}

// note: one more change, of this path.
func (j *journal) note(p string) {
	j.last[j.changes%api.JournalLen] = p
	j.changes++
}

// behind: the paths of the changes behind a mark, and whether all of them are still known.
func (j *journal) behind(mark int) ([]string, bool) {
	if mark < 0 || mark > j.changes || j.changes-mark > api.JournalLen {
		return nil, false
	}
	var paths []string
	for n := mark; n < j.changes; n++ {
		paths = append(paths, j.last[n%api.JournalLen])
	}
	slices.Sort(paths)
	return slices.Compact(paths), true
}
