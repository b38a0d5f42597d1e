package rows

import (
	"strings"

	"cedilla/field"
	"cedilla/utf"
)

const (
	mostClass = 254
	mostMap   = 2   // characters of a mapping
	otherMark = "<" // ahead of a mapping of another kind, which isn't kept
	firstEnd  = ", First>"
	lastEnd   = ", Last>"
)

// reader is what the lines read so far leave to the next one.
type reader struct {
	rows  []Row
	above rune   // the next code is above this one
	open  bool   // is the line ahead a First, whose Last is wanting?
	stem  string // if so: that one's name, up to where Last differs from it
}

// entry is a line whose fields are right, each by itself.
type entry struct {
	Row
	name string
}

// read takes the next line, and answers "", or a note of what is wrong; the
// order in which it asks is that in which wrong things are told.
func (r *reader) read(line string) string {
	e, note := entryOf(line)
	switch {
	case note != "":
		return note
	case e.Code <= r.above:
		return "order"
	case !r.fits(e):
		return "range"
	case !utf.Is(e.Code) && !e.saysNothing():
		return "surrogate"
	}
	r.take(e)
	return ""
}

func entryOf(line string) (entry, string) {
	fields := field.Split(line)
	if len(fields) != fieldCount {
		return entry{}, "fields"
	}
	code, is := field.Hex(fields[codeField])
	if !is {
		return entry{}, "code"
	}
	name := fields[nameField]
	if name == "" {
		return entry{}, "name"
	}
	class, is := field.Num(fields[classField], mostClass)
	if !is {
		return entry{}, "class"
	}
	mapping, is := mappingOf(fields[mapField])
	if !is {
		return entry{}, "map"
	}
	return entry{Row{code, class, mapping}, name}, ""
}

// mappingOf answers none, true, of what maps in another way, too.
func mappingOf(s string) ([]rune, bool) {
	if s == "" || strings.HasPrefix(s, otherMark) {
		return nil, true
	}
	codes, is := field.Hexes(s)
	if !is || len(codes) > mostMap {
		return nil, false
	}
	return codes, true
}

// fits: is e, by its name, what the line ahead asks for, and are the ends of
// a range bare?
func (r *reader) fits(e entry) bool {
	if r.open {
		return e.name == r.stem+lastEnd && e.saysNothing()
	}
	if strings.HasSuffix(e.name, firstEnd) {
		return e.saysNothing()
	}
	return !strings.HasSuffix(e.name, lastEnd)
}

// take is for an entry that is right behind those taken so far.
func (r *reader) take(e entry) {
	r.above = e.Code
	r.stem, r.open = strings.CutSuffix(e.name, firstEnd)
	if !e.saysNothing() {
		r.rows = append(r.rows, e.Row)
	}
}
