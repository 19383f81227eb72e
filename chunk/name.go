package chunk

const (
	nameSize   = 4 // letters of a name
	criticalAt = 0 // the letter that isn't lowercase then
	safeAt     = 3 // the letter that is lowercase then
)

// Named tells whether a name is four letters.
func Named(name string) bool {
	_, ok := letters(name)
	return ok
}

// Critical tells whether a chunk is critical.
func Critical(name string) bool {
	l, ok := letters(name)
	return ok && !lower(l[criticalAt])
}

// Safe tells whether a chunk is safe to copy.
func Safe(name string) bool {
	l, ok := letters(name)
	return ok && lower(l[safeAt])
}

// letters is the letters of a name, or false if a text isn't one.
func letters(name string) ([nameSize]rune, bool) {
	var out [nameSize]rune
	// Each letter before this one has one byte, so that its place is also how many there are.
	for at, r := range name {
		if at >= nameSize || !lower(r) && !upper(r) {
			return [nameSize]rune{}, false
		}
		out[at] = r
	}
	return out, len(name) == nameSize
}

func lower(r rune) bool { return 'a' <= r && r <= 'z' }

func upper(r rune) bool { return 'A' <= r && r <= 'Z' }
