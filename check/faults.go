package check

import (
	"errors"
	"strconv"

	"lamplighter/api"
)

// violation is what keeps a program from being correct, wherever it is.
type violation api.Errno

func (v violation) Error() string {
	return "error " + strconv.Itoa(int(v))
}

// placed is an error at a statement or a declaration. What has no place is an
// error of the whole source.
type placed struct {
	line int
	err  error
}

func (p placed) Error() string {
	return "line " + strconv.Itoa(p.line) + ": " + p.err.Error()
}

func (p placed) Unwrap() error {
	return p.err
}

// at places an error, if there is one.
func at(line int, err error) error {
	if err == nil {
		return nil
	}
	return placed{line, err}
}

// faultOf tells an error as a fault: its number and, if it has one, its place.
func faultOf(err error) api.Fault {
	var f api.Fault
	var v violation
	if errors.As(err, &v) {
		f.Err = api.Errno(v)
	}
	var p placed
	if errors.As(err, &p) {
		f.Line = p.line
	}
	return f
}
