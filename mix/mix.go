// Package mix: numbers of names: see ../shared/doc/01-mix.md.
package mix

import (
	"slices"

	"levelhand/api"
)

// The number of a text: what it begins with, and what each byte multiplies it by.
const (
	textStart uint64 = 0xCBF29CE484222325
	textTimes uint64 = 0x100000001B3
)

// A turn: what is added first, and the two numbers it multiplies by. Both of them are odd, so that no two numbers turn into one.
const (
	turnAdd   uint64 = 0x9E3779B97F4A7C15
	turnFirst uint64 = 0xBF58476D1CE4E5B9
	turnLast  uint64 = 0x94D049BB133111EB
)

// Check hosts.
func Check(l []string) error {
	if len(l) > api.MaxHosts {
		return api.ErrBound
	}
	for i, name := range l {
		if !isName(name) {
			return &api.Fault{At: i, Err: api.ErrName}
		}
		if slices.Contains(l[:i], name) {
			return &api.Fault{At: i, Err: api.ErrExist}
		}
	}
	return nil
}

// Sorted hosts.
func Sorted(l []string) ([]string, error) {
	if err := Check(l); err != nil {
		return nil, err
	}
	out := make([]string, len(l))
	copy(out, l)
	slices.Sort(out)
	return out, nil
}

// Turn a number.
func Turn(z uint64) uint64 {
	fold := func(down uint) { z ^= z >> down }
	z += turnAdd
	fold(30)
	z *= turnFirst
	fold(27)
	z *= turnLast
	fold(31)
	return z
}

// Of a text, and a salt: a number.
func Of(s string, salt uint64) uint64 {
	h := textStart
	for i := range len(s) { // by bytes: a range over the text itself would go by runes
		h = (h ^ uint64(s[i])) * textTimes
	}
	return Turn(h ^ Turn(salt))
}

// Two numbers: one.
func Two(a, b uint64) uint64 { return Turn(Turn(a) ^ b) }

func isName(s string) bool {
	if len(s) == 0 || len(s) > api.MaxName || !isLetter(s[0]) {
		return false
	}
	for i := range len(s) {
		if !isLetter(s[i]) && !isDigit(s[i]) && s[i] != '-' {
			return false
		}
	}
	return true
}

func isLetter(c byte) bool { return c >= 'a' && c <= 'z' }

func isDigit(c byte) bool { return c >= '0' && c <= '9' }
