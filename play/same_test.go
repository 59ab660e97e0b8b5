package play

import (
	"errors"
	"fmt"
	"math"
	"math/rand"
	"slices"
	"testing"

	"levelhand/api"
	"levelhand/balance"
)

// whole: all that can be seen of a duo.
func whole(d *Duo) string {
	return fmt.Sprint(d.A.Up(), d.A.Epoch(), written(d.A.Flows()), " and ", d.B.Up(), d.B.Epoch(), written(d.B.Flows()))
}

// chance: a script of so many numbers, few of them below 0 or great; about each third is a pick of few keys.
func chance(seed int64, many int) []int {
	r := rand.New(rand.NewSource(seed))
	script := make([]int, many)
	for i := range script {
		script[i] = r.Intn(8 * 16 * 30)
		switch r.Intn(40) {
		case 0:
			script[i] = -1 - r.Intn(1<<40)
		case 1:
			script[i] = int(r.Uint64() >> 1)
		case 2, 3, 4, 5: // fewer looks that turn all hosts down
			script[i] |= 8 * 8
		}
		if script[i] >= 0 && script[i]%8 == 5 && r.Intn(3) > 0 { // fewer ticks, so that flows meet
			script[i] -= 5
		}
	}
	return script
}

// byHand: two balances, and the steps done by their calls, as the bits of a number say.
type byHand struct {
	both [2]*balance.Balance
	now  int
	done map[string]int // how often each thing came about
}

func newByHand(t *testing.T) *byHand {
	t.Helper()
	return &byHand{both: [2]*balance.Balance{mustBalance(t, "a b c d"), mustBalance(t, "a b c d")}, done: map[string]int{}}
}

// do what a number says: its bits, from the lowest on: three of the kind, one of A or B, two of the host, one of the flag.
func (h *byHand) do(v int) (what string, err error) {
	who := v >> 3 & 1
	one, other := h.both[who], h.both[1-who]
	host := "abcd"[v>>4&3 : v>>4&3+1]
	flag := v>>6&1 == 1
	switch v & 7 {
	case 0, 1, 2:
		_, kept, err := one.Pick(uint64(v)>>4, h.now)
		return fmt.Sprintf("pick %v", kept), err
	case 3:
		turned, err := one.Look(host, flag)
		return fmt.Sprintf("look %v", turned), err
	case 4:
		return "drain", one.Drain(host, flag)
	case 5:
		h.now += v>>3&7 + 1
		return "tick", nil
	case 6:
		s, err := one.Export()
		if err == nil {
			_, err = other.Import(s, h.now)
		}
		return "carry", err
	}
	var errs [2]error
	for i, b := range h.both {
		_, _, errs[i] = b.Pick(0, h.now)
	}
	for _, err := range errs {
		if err != nil {
			return "both", err
		}
	}
	return "both", nil
}

// answer of a number, as it should be.
func (h *byHand) answer(v int) int {
	if v < 0 {
		h.done["below"]++
		return -1
	}
	what, err := h.do(v)
	if err == nil {
		h.done[what]++
		return 0
	}
	h.done[what+" "+err.Error()]++
	for code, e := range map[int]error{1: api.ErrText, 2: api.ErrBound, 3: api.ErrShape, 4: api.ErrName, 5: api.ErrNone, 6: api.ErrExist, 7: api.ErrFull, 8: api.ErrOld, 9: api.ErrSum} {
		if errors.Is(err, e) {
			return code
		}
	}
	return math.MinInt
}

// hold a play to the same by hand: its answers, and what it leaves.
func hold(t *testing.T, d *Duo, h *byHand, script []int) {
	t.Helper()
	h.now = 0
	got := Run(d, script)
	script = script[:min(len(script), 3000)]
	if len(got) != len(script) {
		t.Fatalf("%d answers of %d numbers", len(got), len(script))
	}
	for i, v := range script {
		if want := h.answer(v); got[i] != want {
			t.Fatalf("number %d, %d: %d, wanted %d", i, v, got[i], want)
		}
	}
	if want := whole(&Duo{A: h.both[0], B: h.both[1]}); whole(d) != want {
		t.Fatalf("%s, wanted %s", whole(d), want)
	}
}

// P110: plays of all kinds of numbers, three behind each other with one duo.
func TestPlaysByHand(t *testing.T) {
	done := map[string]int{}
	for seed := range int64(25) {
		d, h := New(), newByHand(t)
		for i, many := range []int{150, 700, 3100} {
			hold(t, d, h, chance(10*seed+int64(i), many))
		}
		for what, n := range h.done {
			done[what] += n
		}
	}
	for _, what := range []string{"below", "pick true", "pick false", "look true", "look false", "drain", "tick", "carry", "both", "pick false levelhand: none", "pick false levelhand: old", "carry levelhand: old", "both levelhand: none", "both levelhand: old"} {
		if done[what] < 20 {
			t.Errorf("%s: only %d times", what, done[what])
		}
	}
}

// P112: the same script makes the same play, however it is cut off, and with other plays between.
func TestSameAgain(t *testing.T) {
	for seed := range int64(30) {
		script := chance(seed, 600)
		one := New()
		want := Run(one, script)
		between := New()
		Run(between, chance(seed+1000, 300))
		two := New()
		if got := Run(two, slices.Clone(script)); !slices.Equal(got, want) || whole(two) != whole(one) {
			t.Errorf("%d: %s, wanted %s", seed, whole(two), whole(one))
		}
		for _, n := range []int{0, 1, 2, 50, 599} { // what comes behind a number makes no difference to its answer
			if got := Run(New(), script[:n]); !slices.Equal(got, want[:n]) {
				t.Errorf("%d: the first %d: %v, wanted %v", seed, n, got, want[:n])
			}
		}
		if p, q := Run(one, script), Run(two, script); !slices.Equal(p, q) || whole(one) != whole(two) { // and once more, with what is left
			t.Errorf("%d: %s and %s", seed, whole(one), whole(two))
		}
	}
}

// numbersOf bytes: of each two one that is small, and now and then a great one or one below 0.
func numbersOf(steps []byte) []int {
	var script []int
	for ; len(steps) >= 2; steps = steps[2:] {
		v := int(steps[0]) | int(steps[1]&15)<<8
		switch steps[1] >> 4 {
		case 15:
			v = -1 - v
		case 14:
			v = math.MaxInt - v
		}
		script = append(script, v)
	}
	return script
}

// P1, P110, P111
func FuzzPlay(f *testing.F) {
	f.Add([]byte("\x00\x00\x10\x00\x05\x00\x06\x00\x07\x00\x00\xf0\x00\xe0"), 31, 3)
	f.Add([]byte("\x03\x00\x03\x00\x13\x00\x13\x00\x23\x00\x23\x00\x33\x00\x33\x00\x07\x00"), 4, -1)
	f.Add([]byte(nil), math.MaxInt, math.MinInt)
	f.Fuzz(func(t *testing.T, steps []byte, size, many int) {
		d, h := New(), newByHand(t)
		script := numbersOf(steps)
		hold(t, d, h, script)
		hold(t, d, h, script)
		keys := Keys(many)
		if len(keys) != min(max(many, 0), 500) {
			t.Fatalf("%d keys of %d", len(keys), many)
		}
		counts, err := Spread([]string{"b", "a", "c"}, size, keys)
		if err != nil && len(counts) != 0 {
			t.Fatal(counts, err)
		}
		sum := 0
		for _, n := range counts {
			sum += n
		}
		if err == nil && (sum != len(keys) || len(counts) != 3) {
			t.Fatal(counts, len(keys))
		}
	})
}
