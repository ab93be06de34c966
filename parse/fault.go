package parse

import (
	"errors"
	"strconv"

	"chancel/api"
)

// fault is what is wrong with tokens, as an error.
type fault api.Errno

func (f fault) Error() string {
	return "error " + strconv.Itoa(int(f))
}

// stop wraps what a reading was stopped by, and tells how many tokens it had read.
type stop struct {
	place int
	by    error
}

func (s stop) Error() string {
	return "behind token " + strconv.Itoa(s.place) + ": " + s.by.Error()
}

func (s stop) Unwrap() error {
	return s.by
}

// errno tells which fault err wraps. One that wraps none comes of a panic of the language's own: no call lets it through, so it counts as a fault of the tokens.
func errno(err error) api.Errno {
	var f fault
	if errors.As(err, &f) {
		return api.Errno(f)
	}
	return api.ErrParse
}
