package lat

import (
	"strings"

	"chancel/api"
)

// Print tells l as a text: a line of the names, and a line of noughts and ones for each point; nothing, if l is not right.
func Print(l Lat) string {
	if !Right(l) {
		return ""
	}
	n := len(l.Names)
	text := []byte(strings.Join(l.Names, " ") + "\n")
	for _, row := range l.Up {
		line := []byte(strings.Repeat("0", n) + "\n")
		for b := range places(row) {
			line[b] = '1'
		}
		text = append(text, line...)
	}
	return string(text)
}

// Parse tells the lattice whose Print text is, or what is the first thing wrong with it.
func Parse(text string) (Lat, api.Errno) {
	head, rest, _ := strings.Cut(text, "\n")
	if strings.Count(head, " ") > api.MaxPoints-1 {
		return Lat{}, api.ErrLimit
	}
	names := strings.Split(head, " ")
	if !named(names) {
		return Lat{}, api.ErrParse
	}
	up, ok := readRows(rest, len(names))
	switch {
	case !ok:
		return Lat{}, api.ErrParse
	case !ordered(up):
		return Lat{}, api.ErrOrder
	case !complete(up):
		return Lat{}, api.ErrLat
	}
	return Lat{Names: names, Up: up}, api.OK
}

// readRows reads n lines of n noughts and ones; false, if text is anything else.
func readRows(text string, n int) ([]uint64, bool) {
	if len(text) != n*(n+1) {
		return nil, false
	}
	rows := make([]uint64, n)
	for a := range n {
		line := text[a*(n+1):]
		row, ok := readRow(line[:n])
		if !ok || line[n] != '\n' {
			return nil, false
		}
		rows[a] = row
	}
	return rows, true
}

// readRow reads the noughts and ones of a line as a set of places.
func readRow(line string) (uint64, bool) {
	row := uint64(0)
	for b := range len(line) {
		switch line[b] {
		case '0':
		case '1':
			row |= uint64(1) << b
		default:
			return 0, false
		}
	}
	return row, true
}
