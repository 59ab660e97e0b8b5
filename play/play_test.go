package play

import (
	"errors"
	"fmt"
	"math"
	"slices"
	"strconv"
	"strings"
	"sync"
	"testing"

	"levelhand/api"
	"levelhand/balance"
	"levelhand/carry"
	"levelhand/mix"
	"levelhand/table"
)

func mustBalance(t *testing.T, words string) *balance.Balance {
	t.Helper()
	b, err := balance.New(strings.Fields(words), 31, 20, 2, 2)
	if b == nil || err != nil {
		t.Fatalf("%q: %v, %v", words, b, err)
	}
	return b
}

// written: flows as KEY:HOST:UNTIL.
func written(l []api.Flow) string {
	var words []string
	for _, flow := range l {
		words = append(words, fmt.Sprintf("%d:%s:%d", flow.Key, flow.Host, flow.Until))
	}
	return strings.Join(words, " ")
}

func wantFlows(t *testing.T, b *balance.Balance, want string) {
	t.Helper()
	if got := written(b.Flows()); got != want {
		t.Errorf("flows: %s, wanted %s", got, want)
	}
}

func wantUp(t *testing.T, b *balance.Balance, words string) {
	t.Helper()
	if got := b.Up(); !slices.Equal(got, strings.Fields(words)) {
		t.Errorf("up: %q, wanted %q", got, words)
	}
}

func wantEpochs(t *testing.T, d *Duo, a, b int) {
	t.Helper()
	if d.A.Epoch() != a || d.B.Epoch() != b {
		t.Errorf("epochs: %d and %d, wanted %d and %d", d.A.Epoch(), d.B.Epoch(), a, b)
	}
}

func numbers(words string) []int {
	var l []int
	for _, word := range strings.Fields(words) {
		n, err := strconv.Atoi(word)
		if err != nil {
			panic(err)
		}
		l = append(l, n)
	}
	return l
}

// run a script that is written as words, and hold its answers to those that are wanted.
func run(t *testing.T, d *Duo, script, want string) {
	t.Helper()
	if got := Run(d, numbers(script)); !slices.Equal(got, numbers(want)) {
		t.Errorf("Run(%s): %v, wanted %s", script, got, want)
	}
}

// take a text into a balance, at tick 0.
func take(t *testing.T, b *balance.Balance, epoch int, l ...api.Flow) {
	t.Helper()
	s, err := carry.Text(epoch, l)
	if err != nil {
		t.Fatal(err)
	}
	if n, err := b.Import(s, 0); n != len(l) || err != nil {
		t.Fatalf("%q: %d, %v", s, n, err)
	}
}

// P110: a new duo's balances are what they are said to be, by what their calls answer.
func TestNew(t *testing.T) {
	d := New()
	if *d != (Duo{d.A, d.B}) || d.A == d.B {
		t.Fatal("a duo is two balances, and no more")
	}
	for _, b := range []*balance.Balance{d.A, d.B} {
		wantUp(t, b, "a b c d")
		wantFlows(t, b, "")
		if b.Epoch() != 0 {
			t.Errorf("epoch %d", b.Epoch())
		}
		var all []string
		for key := range uint64(100) {
			host, kept, err := b.Pick(key, 0)
			if kept || err != nil {
				t.Fatal(host, kept, err)
			}
			all = append(all, host)
		}
		if got := strings.Join(all[:11], ""); got != "cbcacacbbaa" { // worked out elsewhere, of 31 slots
			t.Errorf("keys 0 to 10: %s", got)
		}
		if until := b.Flows()[0].Until; until != 20 {
			t.Errorf("until %d", until)
		}
		for i, well := range []bool{false, false, true, true} { // two to fall, two to rise
			if turned, err := b.Look("d", well); turned != (i%2 == 1) || err != nil {
				t.Errorf("look %d: %v, %v", i, turned, err)
			}
		}
	}
}

// P110, P4: no balance of a duo is one of another duo's.
func TestNewIsNew(t *testing.T) {
	one, two := New(), New()
	run(t, one, "0 8 6 3 3 11 11", "0 0 0 0 0 0 0")
	wantUp(t, one.A, "b c d")
	for _, b := range []*balance.Balance{two.A, two.B} {
		wantUp(t, b, "a b c d")
		wantFlows(t, b, "")
	}
	wantEpochs(t, two, 0, 0)
}

// P110: whose key is picked, and which one: 0, 1 and 2 are the same.
func TestPicks(t *testing.T) {
	d := New()
	run(t, d, "0 17 34 8 25 674 16000", "0 0 0 0 0 0 0")
	wantFlows(t, d.A, "0:c:20 1:b:20 2:c:20 42:a:20 1000:b:20")
	wantFlows(t, d.B, "0:c:20 1:b:20")
	for kind := range 3 {
		d := New()
		v := math.MaxInt - 7 + kind // its q is odd
		if got := Run(d, []int{v, v - 8}); !slices.Equal(got, []int{0, 0}) {
			t.Errorf("%v", got)
		}
		wantFlows(t, d.A, "576460752303423487:a:20")
		wantFlows(t, d.B, "576460752303423487:a:20")
	}
}

// P110: the tick that picks have, and by how much it grows: by 1 to 8, whoever is named.
func TestTicks(t *testing.T) {
	var script []int
	now := 0
	for i, more := range numbers("1 2 3 4 5 6 7 8 1 2 3 4 5 6 7 8 1") {
		script = append(script, 8*i+5)
		now += more
		d := New()
		if got := Run(d, append(slices.Clone(script), 0, 8)); len(got) != i+3 || slices.Min(got) != 0 || slices.Max(got) != 0 {
			t.Errorf("%v: %v", script, got)
		}
		wantFlows(t, d.A, fmt.Sprintf("0:c:%d", now+20))
		wantFlows(t, d.B, fmt.Sprintf("0:c:%d", now+20))
	}
	d := New()
	run(t, d, "9223372036854775805 0", "0 0")
	wantFlows(t, d.A, "0:c:28")
}

// P110: a flow is kept while its time is not through, and begins anew behind it.
func TestTimeInAPlay(t *testing.T) {
	d := New()
	run(t, d, "16 61 61 21 16", "0 0 0 0 0") // at tick 19: kept
	wantFlows(t, d.A, "1:b:39")
	d = New()
	run(t, d, "16 84 61 61 29 16", "0 0 0 0 0 0") // at tick 20, with b drained: not kept
	if l := d.A.Flows(); len(l) != 1 || l[0].Host == "b" || l[0].Until != 40 {
		t.Errorf("%s", written(l))
	}
}

// lookStep and drainStep: the number of such a step of A or B (0, 1), of a host by its number, with its flag.
func lookStep(who, host, flag int) int  { return 8*(who+2*host+8*flag) + 3 }
func drainStep(who, host, flag int) int { return 8*(who+2*host+8*flag) + 4 }

// P110: which host is looked at, by whom, and whether it is well.
func TestLooks(t *testing.T) {
	left := []string{"b c d", "a c d", "a b d", "a b c"}
	for who := range 2 {
		for host := range 4 {
			for _, beyond := range []int{0, 8 * 16, 8 * 32, 8 * 1600} { // what is of no account to a look
				d := New()
				one, other := d.A, d.B
				if who == 1 {
					one, other = d.B, d.A
				}
				bad, well := lookStep(who, host, 0)+beyond, lookStep(who, host, 1)+beyond
				for _, c := range []struct {
					step int
					up   string
				}{{bad, "a b c d"}, {well, "a b c d"}, {bad, "a b c d"}, {bad, left[host]}, {well, left[host]}, {bad, left[host]}, {well, left[host]}, {well, "a b c d"}} {
					if got := Run(d, []int{c.step}); !slices.Equal(got, []int{0}) {
						t.Errorf("%d: %v", c.step, got)
					}
					wantUp(t, one, c.up)
					wantUp(t, other, "a b c d")
				}
			}
		}
	}
}

// P110: one that turns down loses its flows; behind the last one there is none to pick.
func TestAllDown(t *testing.T) {
	d := New()
	run(t, d, "0 16 48 8 3 3 19 19 35 35 51 51 0 16", "0 0 0 0 0 0 0 0 0 0 0 0 5 5")
	wantUp(t, d.A, "")
	wantFlows(t, d.A, "")
	wantUp(t, d.B, "a b c d")
	wantFlows(t, d.B, "0:c:20")
}

// P110: which host is drained, by whom; and that a drain has an end.
func TestDrains(t *testing.T) {
	for who := range 2 {
		for host, name := range []string{"a", "b", "c", "d"} {
			d := New()
			one := d.A
			if who == 1 {
				one = d.B
			}
			has := func(key uint64) bool {
				t.Helper()
				if got := Run(d, []int{8 * (int(key)*2 + who)}); !slices.Equal(got, []int{0}) {
					t.Fatal(got)
				}
				return slices.ContainsFunc(one.Flows(), func(flow api.Flow) bool { return flow.Key == key && flow.Host == name })
			}
			count := func(first uint64) int {
				t.Helper()
				n := 0
				for key := first; key < first+30; key++ {
					if has(key) {
						n++
					}
				}
				return n
			}
			for i, c := range []struct {
				step    int
				drained bool
			}{{drainStep(who, host, 0), false}, {drainStep(1-who, host, 1), false}, {drainStep(who, host, 1), true}, {drainStep(who, host, 1) + 8*16, true}, {drainStep(who, (host+1)%4, 0), true}, {drainStep(who, host, 0), false}} {
				if got := Run(d, []int{c.step}); !slices.Equal(got, []int{0}) {
					t.Errorf("%d: %v", c.step, got)
				}
				if n := count(uint64(30 * i)); (n == 0) != c.drained {
					t.Errorf("%d, %s, step %d: %d keys, drained: %v", who, name, i, n, c.drained)
				}
			}
			wantUp(t, d.A, "a b c d")
			wantUp(t, d.B, "a b c d")
		}
	}
}

// P110: all drained: a new key has no host, one that has a flow keeps it.
func TestAllDrained(t *testing.T) {
	d := New()
	run(t, d, "0 68 84 100 116 0 16 8 7 16", "0 0 0 0 0 0 5 0 0 5")
	wantFlows(t, d.A, "0:c:20")
	run(t, d, "20 16", "0 0") // b is open again
	wantFlows(t, d.A, "0:c:20 1:b:20")
}

// P110: flows are carried from one to the other, both ways, at the tick of the play.
func TestCarried(t *testing.T) {
	d := New()
	run(t, d, "0 674 24 6", "0 0 0 0") // keys 0 of A, 42 of A, 1 of B
	wantFlows(t, d.A, "0:c:20 42:a:20")
	wantFlows(t, d.B, "0:c:20 1:b:20 42:a:20")
	wantEpochs(t, d, 1, 1)
	run(t, d, "14 6", "0 0")
	wantFlows(t, d.A, "0:c:20 1:b:20 42:a:20")
	wantEpochs(t, d, 3, 3)
	for _, v := range []int{6, 22, 38, 70, 16*8 + 6, math.MaxInt - 1 - 8} { // all of A: what is beyond makes no difference
		before := d.A.Epoch()
		if got := Run(d, []int{v}); !slices.Equal(got, []int{0}) {
			t.Errorf("%d: %v", v, got)
		}
		wantEpochs(t, d, before+1, before+1)
	}

	d = New()
	run(t, d, "0 61 61 21 6", "0 0 0 0 0") // at tick 19 its time is not through
	wantFlows(t, d.B, "0:c:20")
	d = New()
	run(t, d, "0 61 61 29 6 7", "0 0 0 0 0 0") // at tick 20 it is
	wantFlows(t, d.B, "0:c:40")
	d = New()
	run(t, d, "0 61 61 29 6 14", "0 0 0 0 0 0")
	wantFlows(t, d.B, "")
	wantEpochs(t, d, 2, 2)
	if _, _, err := d.B.Pick(0, 19); err != api.ErrOld { // the import told the tick
		t.Error(err)
	}
}

// P110: the errors of what is carried: Export's, and then none is imported; Import's.
func TestCarriedErrors(t *testing.T) {
	d := New()
	take(t, d.A, api.MaxTick, api.Flow{Key: 7, Host: "a", Until: 9})
	run(t, d, "5 6 14 0", "0 2 8 0") // no epoch is left for A; B's is less than A's
	wantEpochs(t, d, api.MaxTick, 1)
	wantFlows(t, d.B, "")
	if _, _, err := d.B.Pick(0, 0); err != nil { // nothing told B of the tick
		t.Error(err)
	}

	d = New()
	for range 2 {
		if _, err := d.B.Export(); err != nil {
			t.Fatal(err)
		}
	}
	run(t, d, "0 6 6", "0 8 0") // of epochs 1 and 2
	wantEpochs(t, d, 2, 2)
	wantFlows(t, d.B, "0:c:20")

	d = New()
	if _, _, err := d.B.Pick(3, 5); err != nil {
		t.Fatal(err)
	}
	run(t, d, "0 6 37 6", "0 8 0 0") // at tick 0 B is at 5 already
	wantEpochs(t, d, 2, 2)
	wantFlows(t, d.B, "0:c:20 3:a:25")
}

// P110: a pick of both, whichever of them the number's q would name.
func TestBoth(t *testing.T) {
	for _, v := range []int{7, 15, 23, 8*100 + 7, math.MaxInt, math.MaxInt - 8} {
		d := New()
		if got := Run(d, []int{13, v}); !slices.Equal(got, []int{0, 0}) {
			t.Errorf("%d: %v", v, got)
		}
		wantFlows(t, d.A, "0:c:22")
		wantFlows(t, d.B, "0:c:22")
	}
}

// P110: of both errors A's is told; and neither keeps the other one from its pick.
func TestBothErrors(t *testing.T) {
	down := func(who int) []int {
		var l []int
		for host := range 4 {
			l = append(l, lookStep(who, host, 0), lookStep(who, host, 0))
		}
		return l
	}
	late := func(b *balance.Balance) {
		t.Helper()
		if _, _, err := b.Pick(9, 1); err != nil {
			t.Fatal(err)
		}
	}
	d := New()
	Run(d, down(0))
	run(t, d, "7", "5")
	wantFlows(t, d.A, "")
	wantFlows(t, d.B, "0:c:20")
	late(d.B)
	run(t, d, "7 15", "5 5") // A's, though B is past this tick

	d = New()
	Run(d, down(1))
	run(t, d, "7 15", "5 5")
	wantFlows(t, d.A, "0:c:20")
	wantFlows(t, d.B, "")
	late(d.A)
	run(t, d, "7 15", "8 8")

	d = New()
	late(d.B)
	run(t, d, "7 5 7", "8 0 0")
	wantFlows(t, d.A, "0:c:21")
	wantFlows(t, d.B, "0:c:21 9:a:21")
}

// P110: numbers below 0 are answered, and do nothing.
func TestBelowZero(t *testing.T) {
	d := New()
	var script []int
	for v := -200; v < 0; v++ {
		script = append(script, v)
	}
	script = append(script, math.MinInt, math.MinInt+1, math.MinInt+5, -1<<40)
	for i, got := range Run(d, script) {
		if got != -1 {
			t.Errorf("%d: %d", script[i], got)
		}
	}
	for _, b := range []*balance.Balance{d.A, d.B} {
		wantUp(t, b, "a b c d")
		wantFlows(t, b, "")
	}
	wantEpochs(t, d, 0, 0)
	run(t, d, "-3 -8 0 -11 -2 -5 16 -1", "-1 -1 0 -1 -1 -1 0 -1")
	wantFlows(t, d.A, "0:c:20 1:b:20")
}

// P110: so many numbers are played, and what is beyond is not.
func TestMostSteps(t *testing.T) {
	for _, n := range []int{0, 1, api.MaxSteps - 1, api.MaxSteps, api.MaxSteps + 1, 3 * api.MaxSteps} {
		d := New()
		script := make([]int, n)
		for i := range script {
			script[i] = 6
		}
		got := Run(d, script)
		most := min(n, 3000)
		if len(got) != most || slices.ContainsFunc(got, func(n int) bool { return n != 0 }) {
			t.Errorf("%d: %d answers", n, len(got))
		}
		wantEpochs(t, d, most, most)
	}
	d := New()
	script := slices.Repeat([]int{-1}, api.MaxSteps-1)
	if got := Run(d, append(script, 0, 16)); len(got) != api.MaxSteps || got[api.MaxSteps-1] != 0 {
		t.Errorf("%d answers", len(got))
	}
	wantFlows(t, d.A, "0:c:20")
	if got := Run(d, nil); len(got) != 0 {
		t.Errorf("%v", got)
	}
}

// P110: the greatest tick that a play can come to is still one.
func TestMostTicks(t *testing.T) {
	d := New()
	script := append(slices.Repeat([]int{8*7 + 5}, api.MaxSteps-1), 7)
	if got := Run(d, script); got[api.MaxSteps-1] != 0 {
		t.Errorf("%d", got[api.MaxSteps-1])
	}
	wantFlows(t, d.A, "0:c:24012")
}

// P110: each Run begins at tick 0, with the duo as the last one left it.
func TestRunAgain(t *testing.T) {
	d := New()
	run(t, d, "45 0 3 67", "0 0 0 0") // at tick 6 A has a flow; a look at a that is not well, and one that is
	run(t, d, "0 8 37 0 5 0 16", "8 0 0 8 0 0 0")
	wantFlows(t, d.A, "0:c:26 1:b:26")
	wantFlows(t, d.B, "0:c:20")
	run(t, d, "3", "0")
	run(t, d, "3", "0")
	wantUp(t, d.A, "b c d")
}

// P110: hosts are a to d, whatever a duo's balances have.
func TestOtherDuos(t *testing.T) {
	d := &Duo{A: mustBalance(t, "z d y"), B: mustBalance(t, "c b")}
	for who, down := range []string{"a b c", "a d"} {
		for host, name := range []string{"a", "b", "c", "d"} {
			want := 0
			if strings.Contains(down, name) {
				want = 5
			}
			for flag := range 2 {
				got := Run(d, []int{lookStep(who, host, flag), drainStep(who, host, flag)})
				if !slices.Equal(got, []int{want, want}) {
					t.Errorf("%d, %s: %v, wanted %d", who, name, got, want)
				}
			}
		}
	}
	wantUp(t, d.A, "z d y")
	wantUp(t, d.B, "c b")
	one := mustBalance(t, "a b c d")
	same := &Duo{A: one, B: one} // carried to itself: each key has a flow already
	run(t, same, "0 8 24 6 14 7 11 3", "0 0 0 0 0 0 0 0")
	wantFlows(t, one, "0:c:20 1:b:20")
	wantEpochs(t, same, 2, 2)
	wantUp(t, one, "b c d")
}

// P3, P4: the script is only read, not behind its length; the answers are new memory.
func TestRunMemory(t *testing.T) {
	whole := numbers("0 16 5 -1 0 16 32 48")
	was := slices.Clone(whole)
	d := New()
	one := Run(d, whole[:4])
	wantFlows(t, d.A, "0:c:20 1:b:20")
	if !slices.Equal(whole, was) || len(one) != 4 {
		t.Errorf("%v: %v", whole, one)
	}
	_ = append(one, 99)
	one[0], one[3] = 77, 77
	two := Run(New(), whole[:4])
	if !slices.Equal(whole, was) || !slices.Equal(two, numbers("0 0 0 -1")) {
		t.Errorf("%v: %v", whole, two)
	}
	many := make([]int, api.MaxSteps+1)
	many[api.MaxSteps] = 55
	_ = append(Run(New(), many), 99)
	if many[api.MaxSteps] != 55 {
		t.Error("a script was written into")
	}
}

// P111: keys that were worked out elsewhere.
func TestKeys(t *testing.T) {
	all := Keys(api.MaxKeys)
	if len(all) != 500 {
		t.Fatal(len(all))
	}
	for i, want := range map[int]uint64{0: 0xE220A8397B1DCDAF, 1: 0x910A2DEC89025CC1, 2: 0x975835DE1C9756CE, 3: 0x1D0B14E4DB018FED, 498: 0x4521F235CD680D65, 499: 0xB8942A1E7065E6FF} {
		if all[i] != want {
			t.Errorf("key %d: %X, wanted %X", i, all[i], want)
		}
	}
	for i, key := range all {
		if key != mix.Turn(uint64(i)) {
			t.Errorf("key %d: %X", i, key)
		}
	}
	for n, want := range map[int]int{math.MinInt: 0, -500: 0, -1: 0, 0: 0, 1: 1, 2: 2, 499: 499, 501: 500, 5000: 500, math.MaxInt: 500} {
		if got := Keys(n); !slices.Equal(got, all[:want]) {
			t.Errorf("Keys(%d): %d keys, wanted %d", n, len(got), want)
		}
	}
	Keys(3)[0] = 5 // what is answered is nobody else's
	if Keys(3)[0] != all[0] {
		t.Error("keys are kept")
	}
}

func wantSpread(t *testing.T, words string, size int, keys []uint64, want string) {
	t.Helper()
	got, err := Spread(strings.Fields(words), size, keys)
	if !slices.Equal(got, numbers(want)) || err != nil {
		t.Errorf("Spread(%q, %d, %d keys): %v, %v, wanted %s", words, size, len(keys), got, err, want)
	}
}

// P111: counts that were worked out elsewhere, as the hosts stand in the list.
func TestSpread(t *testing.T) {
	for _, c := range []struct {
		words string
		size  int
		by    map[int]string
	}{
		{"b a c", 101, map[int]string{0: "0 0 0", 1: "1 0 0", 10: "3 5 2", 500: "161 166 173"}},
		{"c b a", 101, map[int]string{0: "0 0 0", 1: "0 1 0", 10: "2 3 5", 500: "173 161 166"}},
		{"d a b c", 31, map[int]string{0: "0 0 0 0", 1: "0 1 0 0", 10: "2 4 3 1", 500: "119 123 118 140"}},
		{"a", 2, map[int]string{0: "0", 1: "1", 10: "10", 500: "500"}},
		{"b a", 2, map[int]string{0: "0 0", 1: "0 1", 10: "4 6", 500: "267 233"}},
		{"l k j i h g f e d c b a", 503, map[int]string{10: "2 3 0 1 0 2 1 1 0 0 0 0", 500: "35 49 41 47 44 40 44 42 35 38 42 43"}},
	} {
		for n, want := range c.by {
			wantSpread(t, c.words, c.size, Keys(n), want)
		}
	}
	wantSpread(t, "d a b c", 31, []uint64{7, 7, 7, 0, 42}, "0 1 3 1") // a key counts as often as it stands there
	wantSpread(t, "d a b c", 31, []uint64{math.MaxUint64, 1 << 63, 0}, "0 1 1 1")
	wantSpread(t, "d a b c", 31, nil, "0 0 0 0")
}

// P111, P3: Make's errors, each with too many keys as well; then the keys.
func TestSpreadWrongInputs(t *testing.T) {
	wantNone := func(hosts []string, size, keys int, want error, at int) {
		t.Helper()
		got, err := Spread(hosts, size, make([]uint64, keys))
		var f *api.Fault
		placed := errors.As(err, &f)
		if len(got) != 0 || !errors.Is(err, want) || placed != (at >= 0) || placed && f.At != at {
			t.Errorf("Spread(%q, %d, %d keys): %v, %#v, wanted %v at %d", hosts, size, keys, got, err, want, at)
		}
	}
	good := strings.Fields("d a b c")
	for _, keys := range []int{0, 500, 501, 5000} {
		wantNone(nil, 31, keys, api.ErrNone, -1)
		wantNone([]string{}, 4, keys, api.ErrNone, -1)
		wantNone(strings.Fields("a b c d e f g h i j k l m"), 4, keys, api.ErrBound, -1)
		wantNone([]string{"a", "B"}, 4, keys, api.ErrName, 1)
		wantNone([]string{"", "a"}, 31, keys, api.ErrName, 0)
		wantNone([]string{"a", "b", "a"}, 4, keys, api.ErrExist, 2)
		for _, size := range []int{4, 9, 100, 502} {
			wantNone(good, size, keys, api.ErrShape, -1)
		}
		for _, size := range []int{1, 0, -1, -31, 504, 509, math.MinInt, math.MaxInt} {
			wantNone(good, size, keys, api.ErrBound, -1)
		}
	}
	for _, keys := range []int{501, 502, 5000} {
		wantNone(good, 31, keys, api.ErrBound, -1)
	}
	if n, err := Spread(good, 31, make([]uint64, 500)); !slices.Equal(n, numbers("0 0 0 500")) || err != nil {
		t.Error(n, err)
	}
}

// P4: what is handed over is only read; what is answered is new memory.
func TestSpreadMemory(t *testing.T) {
	hosts, keys := strings.Fields("d a b c x"), []uint64{1, 2, 3, 4}
	one, err := Spread(hosts[:4], 31, keys[:3])
	if err != nil || !slices.Equal(hosts, strings.Fields("d a b c x")) || !slices.Equal(keys, []uint64{1, 2, 3, 4}) {
		t.Error(hosts, keys, err)
	}
	was := slices.Clone(one)
	for i := range one {
		one[i] = 9
	}
	if two, _ := Spread(hosts[:4], 31, keys[:3]); !slices.Equal(two, was) || !slices.Equal(two, numbers("0 1 1 1")) {
		t.Error(two, was)
	}
}

// P111: no two sizes share a table: of each the counts are those of the slots.
func TestSpreadBySlots(t *testing.T) {
	for _, words := range []string{"a", "d a b c", "web-1 web-3 web-2", "l k j i h g f e d c b a"} {
		hosts := strings.Fields(words)
		for size := 2; size <= 503; size++ {
			slots, err := table.Make(hosts, size)
			got, gotErr := Spread(hosts, size, Keys(200))
			if err != nil {
				if gotErr != err || len(got) != 0 {
					t.Errorf("%q, %d: %v, %v, wanted %v", words, size, got, gotErr, err)
				}
				continue
			}
			for host := range hosts {
				want := 0
				for i := range uint64(200) {
					if slots[mix.Turn(mix.Turn(i))%uint64(size)] == host {
						want++
					}
				}
				if gotErr != nil || len(got) != len(hosts) || got[host] != want {
					t.Fatalf("%q, %d: %v, %v, wanted %d of %d", words, size, got, gotErr, want, host)
				}
			}
		}
	}
}

// P2, P112: plays that go on at the same time know nothing of each other.
func TestPlaysSideBySide(t *testing.T) {
	script := chance(112, 1500)
	first := New()
	want := Run(first, script)
	var all sync.WaitGroup
	for range 8 {
		all.Go(func() {
			d := New()
			if got := Run(d, script); !slices.Equal(got, want) || whole(d) != whole(first) {
				t.Errorf("%s, wanted %s", whole(d), whole(first))
			}
			if n, err := Spread([]string{"b", "a", "c"}, 101, Keys(500)); fmt.Sprint(n, err) != "[161 166 173] <nil>" {
				t.Error(n, err)
			}
		})
	}
	all.Wait()
}
