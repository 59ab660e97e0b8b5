// Package given holds the packages that are given, whole, to what they promise. It stands beside them, so that their folders stay as they are.
package given

import (
	"errors"
	"testing"

	"levelhand/api"
	"levelhand/plain"
)

type namedError struct {
	err  error
	text string
}

// allErrors: in the order of their codes.
func allErrors() []namedError {
	return []namedError{
		{api.ErrText, "levelhand: text"},
		{api.ErrBound, "levelhand: bound"},
		{api.ErrShape, "levelhand: shape"},
		{api.ErrName, "levelhand: name"},
		{api.ErrNone, "levelhand: none"},
		{api.ErrExist, "levelhand: exist"},
		{api.ErrFull, "levelhand: full"},
		{api.ErrOld, "levelhand: old"},
		{api.ErrSum, "levelhand: sum"},
	}
}

// P5
func TestConstants(t *testing.T) {
	for _, c := range []struct {
		name      string
		got, want int
	}{
		{"MaxName", api.MaxName, 12},
		{"MaxHosts", api.MaxHosts, 12},
		{"MaxSlots", api.MaxSlots, 503},
		{"MaxCopies", api.MaxCopies, 16},
		{"MaxKeys", api.MaxKeys, 500},
		{"MaxJump", api.MaxJump, 1048576},
		{"MaxFlows", api.MaxFlows, 200},
		{"MaxTick", api.MaxTick, 1099511627776},
		{"MaxTime", api.MaxTime, 1000},
		{"MaxEdge", api.MaxEdge, 10},
		{"MaxText", api.MaxText, 20000},
		{"MaxSteps", api.MaxSteps, 3000},
		{"MaxLines", api.MaxLines, 100},
		{"Workers", api.Workers, 16},
	} {
		if c.got != c.want {
			t.Errorf("%s is %d, wanted %d", c.name, c.got, c.want)
		}
	}
}

// P5
func TestErrors(t *testing.T) {
	for i, a := range allErrors() {
		if a.err.Error() != a.text {
			t.Errorf("%q, wanted %q", a.err, a.text)
		}
		for j, b := range allErrors() {
			if errors.Is(a.err, b.err) != (i == j) {
				t.Errorf("%v is taken for %v", a.err, b.err)
			}
		}
	}
}

// P3, P5
func TestFault(t *testing.T) {
	for _, e := range allErrors() {
		f := &api.Fault{At: 7, Err: e.err}
		if f.Error() != e.text || f.Unwrap() != e.err || !errors.Is(f, e.err) {
			t.Errorf("%v: %v, %v", e.err, f, f.Unwrap())
		}
	}
}

// P5
func TestCodes(t *testing.T) {
	look := func(err error, wantCode, wantAt int) {
		t.Helper()
		if code, at := plain.Code(err); code != wantCode || at != wantAt {
			t.Errorf("%v: %d at %d, wanted %d at %d", err, code, at, wantCode, wantAt)
		}
	}
	look(nil, 0, -1)
	for i, e := range allErrors() {
		look(e.err, i+1, -1)
		look(&api.Fault{At: 0, Err: e.err}, i+1, 0)
		look(&api.Fault{At: 11, Err: e.err}, i+1, 11)
	}
	look(errors.New("levelhand: text"), -1, -1)
	look(&api.Fault{At: 3, Err: errors.New("another")}, -1, 3)
}
