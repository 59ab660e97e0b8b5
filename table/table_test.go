package table

import (
	"errors"
	"math"
	"math/big"
	"math/rand"
	"slices"
	"strings"
	"testing"

	"levelhand/api"
	"levelhand/mix"
)

// primes that a table may have as its size, by a way of their own.
func primes() []int {
	var l []int
	for n := 2; n <= api.MaxSlots; n++ {
		if big.NewInt(int64(n)).ProbablyPrime(20) {
			l = append(l, n)
		}
	}
	return l
}

// wrongSizes with the error of each.
func wrongSizes() map[int]error {
	l := map[int]error{math.MinInt: api.ErrBound, math.MaxInt: api.ErrBound}
	good := primes()
	for n := -20; n <= 1100; n++ {
		switch {
		case n < 2 || n > api.MaxSlots:
			l[n] = api.ErrBound
		case !slices.Contains(good, n):
			l[n] = api.ErrShape
		}
	}
	return l
}

// lists of hosts: each length, names by chance from a fixed seed, in no order.
func lists() [][]string {
	r := rand.New(rand.NewSource(7))
	var out [][]string
	for many := 1; many <= api.MaxHosts; many++ {
		for range 3 {
			var l []string
			for len(l) < many {
				s := string(rune('a' + r.Intn(26)))
				for range r.Intn(api.MaxName) {
					s += string("abcxyz019-"[r.Intn(10)])
				}
				if !slices.Contains(l, s) {
					l = append(l, s)
				}
			}
			out = append(out, l)
		}
	}
	return out
}

func wantBare(t *testing.T, what string, many int, err, want error) {
	t.Helper()
	if many != 0 || err != want {
		t.Errorf("%s: %d results, %v, wanted none, %v, bare", what, many, err, want)
	}
}

func wantFault(t *testing.T, what string, many int, err error, at int, want error) {
	t.Helper()
	f, ok := err.(*api.Fault)
	if many != 0 || !ok || f.At != at || f.Err != want || !errors.Is(err, want) {
		t.Errorf("%s: %d results, %#v, wanted none, %v at %d", what, many, err, want, at)
	}
}

// P20
func TestRowGoesByOffsetAndSkip(t *testing.T) {
	for _, name := range []string{"a", "z", "h-1", "web-10", "abcdefghijkl"} {
		for _, n := range primes() {
			row, err := Row(name, n)
			if err != nil || len(row) != n {
				t.Fatalf("Row(%q, %d): %v, %v", name, n, row, err)
			}
			offset, skip := mix.Of(name, 1)%uint64(n), 1+mix.Of(name, 2)%uint64(n-1)
			for j, slot := range row {
				if want := (offset + uint64(j)*skip) % uint64(n); uint64(slot) != want {
					t.Fatalf("Row(%q, %d)[%d] = %d, wanted %d", name, n, j, slot, want)
				}
			}
		}
	}
}

// P20
func TestRowHasEverySlotOnce(t *testing.T) {
	for _, l := range lists() {
		for _, n := range []int{2, 3, 5, 7, 251, 503} {
			row, err := Row(l[0], n)
			if err != nil {
				t.Fatal(err)
			}
			slices.Sort(row)
			for i, slot := range row {
				if slot != i {
					t.Fatalf("Row(%q, %d) sorted: %v", l[0], n, row)
				}
			}
		}
	}
}

// P20
func TestRowWrongInputs(t *testing.T) {
	for n, want := range wrongSizes() {
		row, err := Row("a", n)
		wantBare(t, "Row", len(row), err, want)
	}
	for _, name := range []string{"", "A", "1a", "-", "a b", "a\n", "é", strings.Repeat("a", api.MaxName+1)} {
		for _, n := range []int{7, 8, 0, -1, 504, math.MinInt} { // the name's error comes first
			row, err := Row(name, n)
			wantBare(t, "Row", len(row), err, api.ErrName)
		}
	}
}

// byHand fills a table as the words say it: whose turn it is looks through its row from the start.
func byHand(t *testing.T, hosts []string, n int) []string {
	t.Helper()
	names := slices.Sorted(slices.Values(hosts))
	filled := make([]string, n)
	for turn := range n {
		name := names[turn%len(names)]
		row, err := Row(name, n)
		if err != nil {
			t.Fatal(err)
		}
		k := slices.IndexFunc(row, func(slot int) bool { return filled[slot] == "" })
		filled[row[k]] = name
	}
	return filled
}

// P21
func TestMakeFillsByTurns(t *testing.T) {
	for _, hosts := range lists() {
		for _, n := range []int{2, 3, 5, 11, 13, 31, 503} {
			slots, err := Make(hosts, n)
			want := byHand(t, hosts, n)
			if err != nil || len(slots) != n {
				t.Fatalf("Make(%q, %d): %v, %v", hosts, n, slots, err)
			}
			for i, host := range slots {
				if host < 0 || host >= len(hosts) || hosts[host] != want[i] {
					t.Fatalf("Make(%q, %d)[%d] = %d, wanted %q", hosts, n, i, host, want[i])
				}
			}
		}
	}
}

// P21: a host alone has all; of more hosts than slots, the first by name have one each.
func TestMakeFewAndMany(t *testing.T) {
	for _, n := range primes() {
		if slots, err := Make([]string{"x"}, n); err != nil || !slices.Equal(slots, make([]int, n)) {
			t.Errorf("a host alone, %d: %v, %v", n, slots, err)
		}
	}
	slots, err := Make([]string{"e", "d", "c", "b", "a"}, 3)
	if err != nil || !slices.Equal(slices.Sorted(slices.Values(slots)), []int{2, 3, 4}) {
		t.Errorf("five hosts, three slots: %v, %v", slots, err)
	}
}

// P21
func TestMakeWrongInputs(t *testing.T) {
	many := strings.Split("a b c d e f g h i j k l m", " ")
	sizes := wrongSizes()
	sizes[7] = nil
	for n, want := range sizes {
		slots, err := Make(nil, n)
		wantBare(t, "no hosts", len(slots), err, api.ErrNone)
		slots, err = Make([]string{}, n)
		wantBare(t, "no hosts", len(slots), err, api.ErrNone)
		slots, err = Make(many, n)
		wantBare(t, "too many hosts", len(slots), err, api.ErrBound)
		slots, err = Make([]string{"a", "b", "C"}, n)
		wantFault(t, "a wrong name", len(slots), err, 2, api.ErrName)
		slots, err = Make([]string{"b", "b"}, n)
		wantFault(t, "a name twice", len(slots), err, 1, api.ErrExist)
		if want != nil {
			slots, err = Make([]string{"b", "a"}, n)
			wantBare(t, "a wrong size", len(slots), err, want)
		}
	}
	if slots, err := Make(many[:api.MaxHosts], 503); err != nil || len(slots) != 503 {
		t.Errorf("as many hosts as may be: %v, %v", slots, err)
	}
}

// P22
func TestCounts(t *testing.T) {
	for _, c := range []struct {
		l    []int
		many int
		want []int
	}{
		{nil, 0, nil},
		{[]int{}, 0, nil},
		{nil, 3, []int{0, 0, 0}},
		{[]int{0}, 1, []int{1}},
		{[]int{2, 0, 2, 2}, 4, []int{1, 0, 3, 0}},
		{[]int{11, 0, 11}, 12, []int{1, 0, 0, 0, 0, 0, 0, 0, 0, 0, 0, 2}},
		{make([]int, 1000), 2, []int{1000, 0}},
	} {
		if got, err := Counts(c.l, c.many); err != nil || !slices.Equal(got, c.want) {
			t.Errorf("Counts(%v, %d) = %v, %v, wanted %v", c.l, c.many, got, err, c.want)
		}
	}
}

// P22
func TestCountsWrongInputs(t *testing.T) {
	for _, many := range []int{-1, api.MaxHosts + 1, math.MinInt, math.MaxInt} {
		for _, l := range [][]int{nil, {0}, {-1}, {100}} {
			counts, err := Counts(l, many)
			wantBare(t, "Counts", len(counts), err, api.ErrBound)
		}
	}
	for _, c := range []struct {
		l        []int
		many, at int
	}{
		{[]int{0}, 0, 0},
		{[]int{0, 1, 2}, 2, 2},
		{[]int{0, -1, 2}, 2, 1},
		{[]int{1, 1, 1, 12, -5}, 12, 3},
		{[]int{0, math.MinInt}, 12, 1},
		{[]int{math.MaxInt}, 12, 0},
	} {
		counts, err := Counts(c.l, c.many)
		wantFault(t, "Counts", len(counts), err, c.at, api.ErrBound)
	}
}

// P22
func TestMovesGoesByNames(t *testing.T) {
	all := lists()
	for i, a := range all {
		for _, b := range [][]string{a, all[(i+7)%len(all)], append([]string{"new"}, a[1:]...), a[:(len(a)+1)/2]} {
			for _, n := range []int{2, 31, 503} {
				before, after, want := byHand(t, a, n), byHand(t, b, n), 0
				for k := range n {
					if before[k] != after[k] {
						want++
					}
				}
				if got, err := Moves(a, b, n); err != nil || got != want {
					t.Errorf("Moves(%q, %q, %d) = %d, %v, wanted %d", a, b, n, got, err, want)
				}
			}
		}
	}
	if got, err := Moves([]string{"a", "b"}, []string{"c", "d"}, 31); err != nil || got != 31 {
		t.Errorf("all hosts are other ones: %d, %v", got, err)
	}
}

// P22
func TestMovesWrongInputs(t *testing.T) {
	good := []string{"b", "a"}
	for _, c := range []struct {
		a, b []string
		n    int
		at   int
		want error
	}{
		{nil, good, 7, -1, api.ErrNone},
		{good, nil, 7, -1, api.ErrNone},
		{good, nil, 8, -1, api.ErrShape}, // the first list's size comes ahead of the second list
		{good, []string{"A"}, 504, -1, api.ErrBound},
		{nil, nil, 8, -1, api.ErrNone},
		{good, make([]string, api.MaxHosts+1), 7, -1, api.ErrBound},
		{[]string{"a", "a"}, []string{"A"}, 8, 1, api.ErrExist},
		{good, []string{"a", "b", ""}, 7, 2, api.ErrName},
		{good, []string{"a", "a"}, 7, 1, api.ErrExist},
	} {
		got, err := Moves(c.a, c.b, c.n)
		if c.at < 0 {
			wantBare(t, "Moves", got, err, c.want)
		} else {
			wantFault(t, "Moves", got, err, c.at, c.want)
		}
	}
}

// P23
func TestSharesAreEven(t *testing.T) {
	for _, hosts := range lists() {
		for _, n := range primes() {
			slots, err := Make(hosts, n)
			if err != nil {
				t.Fatal(err)
			}
			counts, err := Counts(slots, len(hosts))
			if err != nil || slices.Max(counts)-slices.Min(counts) > 1 {
				t.Fatalf("%q, %d slots: %v, %v", hosts, n, counts, err)
			}
		}
	}
	slots, _ := Make([]string{"d", "c", "b", "a"}, 31)
	counts, _ := Counts(slots, 4)
	if !slices.Equal(counts, []int{7, 8, 8, 8}) { // the last one by name has the last turn
		t.Errorf("31 slots of 4 hosts: %v", counts)
	}
}

// P23
func TestOrderMakesNoDifference(t *testing.T) {
	r := rand.New(rand.NewSource(3))
	for _, hosts := range lists() {
		other := slices.Clone(hosts)
		for _, n := range []int{2, 5, 31, 503} {
			r.Shuffle(len(other), func(i, k int) { other[i], other[k] = other[k], other[i] })
			one, _ := Make(hosts, n)
			two, _ := Make(other, n)
			for i := range n {
				if hosts[one[i]] != other[two[i]] {
					t.Fatalf("%q and %q, %d slots: slot %d is of another host", hosts, other, n, i)
				}
			}
			if m, err := Moves(hosts, other, n); m != 0 || err != nil {
				t.Errorf("Moves(%q, %q, %d) = %d, %v", hosts, other, n, m, err)
			}
		}
	}
}

// P3, P4, P20 to P22
func TestArgumentsAreOnlyRead(t *testing.T) {
	room := []string{"c", "a", "b", "A", "a"}
	kept := slices.Clone(room)
	hosts := room[:3]
	one, err := Make(hosts, 31)
	if err != nil {
		t.Fatal(err)
	}
	want := slices.Clone(one)
	if _, err := Moves(hosts, hosts[:2], 31); err != nil {
		t.Error(err)
	}
	two, _ := Make(hosts, 31)
	numbers := append(slices.Clone(one), 99, -1)
	counts, err := Counts(numbers[:31], 3)
	if err != nil || !slices.Equal(numbers[:31], want) || numbers[31] != 99 || numbers[32] != -1 {
		t.Errorf("Counts: %v, %v, %v", numbers, counts, err)
	}
	row, _ := Row("a", 31)
	rowKept := slices.Clone(row)
	again, _ := Row("a", 31)
	for _, l := range [][]int{one, row} {
		for i := range l {
			l[i] = -7
		}
	}
	if !slices.Equal(room, kept) || !slices.Equal(two, want) || !slices.Equal(again, rowKept) {
		t.Errorf("memory is shared: %q, %v, %v", room, two, again)
	}
}

// P1, P21, P23
func FuzzMake(f *testing.F) {
	f.Add("a b c", 31)
	f.Add("", 2)
	f.Add("a a", 4)
	f.Add("A", -1)
	f.Fuzz(func(t *testing.T, words string, n int) {
		hosts := strings.Split(words, " ")
		slots, err := Make(hosts, n)
		if err != nil {
			if len(slots) != 0 {
				t.Errorf("%v with %v", slots, err)
			}
			return
		}
		counts, err := Counts(slots, len(hosts))
		if err != nil || len(slots) != n || slices.Max(counts)-slices.Min(counts) > 1 {
			t.Errorf("Make(%q, %d): %v, %v", hosts, n, slots, err)
		}
	})
}
