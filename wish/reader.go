package wish

import (
	"strings"

	"burnish/api"
)

// reader is a text that is being read. Its methods take what they read away from the rest; where one of them fails, at is the position of the fault.
type reader struct {
	rest string
	at   int // how many runes have been taken
}

// wishes reads all wishes.
func (r *reader) wishes() ([]api.Wish, bool) {
	if r.rest == "" {
		return nil, true
	}
	var list []api.Wish
	for {
		w, ok := r.wish(list)
		if !ok {
			return nil, false
		}
		list = append(list, w)
		if r.rest == "" {
			return list, true
		}
		if !r.take(',') {
			return nil, false
		}
	}
}

// wish reads the wish behind those before.
func (r *reader) wish(before []api.Wish) (api.Wish, bool) {
	if len(before) == most {
		return api.Wish{}, false
	}
	start := r.at
	name := r.word()
	// A letter too many is a fault of its own, so what follows a name is seen to before the name.
	if name == "" || !r.nameEnds() {
		return api.Wish{}, false
	}
	if _, twice := Find(before, name); twice {
		r.at = start
		return api.Wish{}, false
	}
	if !r.take('=') {
		return api.Wish{Name: name, Value: true}, true
	}
	value, ok := r.value()
	return api.Wish{Name: name, Value: value}, ok
}

// nameEnds tells whether what is next may follow a whole name.
func (r *reader) nameEnds() bool {
	return r.rest == "" || r.rest[0] == ',' || r.rest[0] == '='
}

// value reads a value.
func (r *reader) value() (api.Value, bool) {
	if r.take('"') {
		return r.quoted()
	}
	switch word := r.word(); word {
	case "":
		return r.number()
	case "true":
		return true, true
	case "false":
		return false, true
	default:
		return word, true
	}
}

// word reads letters, as many as there are, up to those that a name or a word may have.
func (r *reader) word() string {
	var out strings.Builder
	for _, c := range r.rest {
		if !isLetter(c) || out.Len() == most {
			break
		}
		r.take(c)
		out.WriteRune(c)
	}
	return out.String()
}

// number reads a number, up to a digit that would make it too large.
func (r *reader) number() (int, bool) {
	minus := r.take('-')
	if !minus && r.take('0') {
		return 0, true
	}
	n := 0
	for _, c := range r.rest {
		more := 10*n + int(c-'0')
		if !isDigit(c) || more == 0 || more > largest {
			break
		}
		r.take(c)
		n = more
	}
	if minus {
		return -n, n > 0
	}
	return n, n > 0
}

// quoted reads a quoted text whose first " is taken.
func (r *reader) quoted() (string, bool) {
	var out strings.Builder
	marked := false
text:
	for _, c := range Runes(r.rest) {
		switch {
		case marked && !isMarked(c), !marked && c == '"':
			break text
		case !marked && c == '~':
			marked = true
		default:
			marked = false
			out.WriteRune(c)
		}
		r.take(c)
	}
	return out.String(), r.take('"')
}

// take takes a rune, if it is the next one.
func (r *reader) take(c rune) bool {
	rest, ok := strings.CutPrefix(r.rest, string(c))
	if ok {
		r.rest = rest
		r.at++
	}
	return ok
}
