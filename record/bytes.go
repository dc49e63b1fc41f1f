package record

import (
	"brickyard/api"
	"brickyard/wire"
)

// The bytes that stand alone. Each is a number's bytes too, so that a cursor reads them as numbers.
const (
	first = 1 // ahead of all
	has   = 1 // ahead of a need's content
	lacks = 0 // in place of it
)

// Put: a trace's bytes.
func Put(t api.Trace) (string, api.Errno) {
	if e := Check(t); e != api.OK {
		return "", e
	}
	b := append([]byte{first}, wire.PutText(t.Job)...)
	b = append(b, wire.PutUint(uint64(len(t.Needs)))...)
	for _, n := range t.Needs {
		b = append(b, wire.PutText(n.Path)...)
		if n.Have {
			b = append(append(b, has), wire.PutText(n.Content)...)
		} else {
			b = append(b, lacks)
		}
	}
	return string(append(b, wire.PutList(t.Outs...)...)), api.OK
}

// Get: the trace that has these bytes.
func Get(s string) (api.Trace, api.Errno) {
	r := reader{cursor: wire.New([]byte(s))}
	r.bad = r.number(first) != first
	t := api.Trace{Job: r.text(api.MaxJob), Needs: r.needs(), Outs: r.texts(api.MaxOuts, api.MaxContent)}
	if r.bad || r.cursor.Left() > 0 || Check(t) != api.OK {
		return api.Trace{}, api.ErrBytes
	}
	return t, api.OK
}

// reader reads a trace's parts one behind the other. From the first one on that says nothing it is bad, and reads nothing any more.
type reader struct {
	cursor *wire.Cursor
	bad    bool
}

// needs: what is read of them up to the first one that says nothing.
func (r *reader) needs() []api.Need {
	var l []api.Need
needs:
	for range r.number(api.MaxNeeds) {
		n := api.Need{Path: r.text(api.MaxPath), Have: r.number(has) == has}
		switch {
		case r.bad:
			break needs
		case n.Have:
			n.Content = r.text(api.MaxContent)
		}
		l = append(l, n)
	}
	return l
}

func (r *reader) number(most uint64) uint64 {
	if r.bad {
		return 0
	}
	n, e := r.cursor.Uint(most)
	r.bad = e != api.OK
	return n
}

func (r *reader) text(most int) string {
	if r.bad {
		return ""
	}
	s, e := r.cursor.Text(most)
	r.bad = e != api.OK
	return s
}

func (r *reader) texts(most, longest int) []string {
	if r.bad {
		return nil
	}
	l, e := r.cursor.List(most, longest)
	r.bad = e != api.OK
	return l
}
