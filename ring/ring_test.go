package ring

import (
	"errors"
	"math"
	"math/rand"
	"slices"
	"strings"
	"sync"
	"testing"

	"levelhand/api"
	"levelhand/mix"
)

// The texts of these two names have one number, so that all their points are the same ones.
const (
	twinLess = "gqkjcuufakek"
	twinMore = "ovszkaa2hd4w"
)

// unturn a number: the key that turns into it, so that a test may ask at a point itself and beside it.
func unturn(z uint64) uint64 {
	unfold := func(z uint64, down uint) uint64 {
		out := z
		for range 64 / down {
			out = z ^ out>>down
		}
		return out
	}
	odd := func(n uint64) uint64 { // what times n is 1
		x := n
		for range 6 {
			x *= 2 - n*x
		}
		return x
	}
	z = unfold(z, 31) * odd(0x94D049BB133111EB)
	z = unfold(z, 27) * odd(0xBF58476D1CE4E5B9)
	return unfold(z, 30) - 0x9E3779B97F4A7C15
}

func TestUnturn(t *testing.T) {
	for z := range uint64(1000) {
		if mix.Turn(unturn(z)) != z || mix.Turn(unturn(^z)) != ^z {
			t.Fatal(z)
		}
	}
}

// lists of hosts: each length, names by chance from a fixed seed, in no order; and some with twins.
func lists() [][]string {
	r := rand.New(rand.NewSource(11))
	out := [][]string{{twinMore, twinLess}, {twinMore, "m", twinLess, "a"}, {"z", twinLess, "b", twinMore}}
	for many := 1; many <= api.MaxHosts; many++ {
		var l []string
		for len(l) < many {
			s := string(rune('a' + r.Intn(26)))
			for range r.Intn(api.MaxName) {
				s += string("abcxyz019-"[r.Intn(10)])
			}
			if !slices.Contains(l, s) {
				l = append(l, s)
			}
		}
		out = append(out, l)
	}
	return out
}

// places of all points, rising.
func places(hosts []string, copies int) []uint64 {
	var l []uint64
	for _, host := range hosts {
		for c := range copies {
			l = append(l, mix.Of(host, 1000+uint64(c)))
		}
	}
	slices.Sort(l)
	return l
}

// keys to ask for: some by chance, and those that turn into a point, into the one ahead and the one behind.
func keys(hosts []string, copies int) []uint64 {
	l := []uint64{0, 1, math.MaxUint64, unturn(0), unturn(math.MaxUint64)}
	for _, p := range places(hosts, copies) {
		l = append(l, unturn(p), unturn(p-1), unturn(p+1))
	}
	for k := range uint64(100) {
		l = append(l, k*k*0x9E3779B97F4A7C15)
	}
	return l
}

// byHand tells the hosts of a key without any order of points: each by how far its nearest point is, upwards.
func byHand(hosts []string, copies int, key uint64) []string {
	far := map[string]uint64{}
	for _, host := range hosts {
		far[host] = math.MaxUint64
		for c := range copies {
			far[host] = min(far[host], mix.Of(host, 1000+uint64(c))-mix.Turn(key))
		}
	}
	names := slices.Sorted(slices.Values(hosts))
	slices.SortStableFunc(names, func(a, b string) int {
		switch {
		case far[a] < far[b]:
			return -1
		case far[a] > far[b]:
			return 1
		}
		return 0
	})
	return names
}

func mustNew(t *testing.T, hosts []string, copies int) *Ring {
	t.Helper()
	r, err := New(hosts, copies)
	if err != nil || r == nil {
		t.Fatalf("New(%q, %d): %v, %v", hosts, copies, r, err)
	}
	return r
}

// P30
func TestHostAndNextGoByPoints(t *testing.T) {
	for _, hosts := range lists() {
		for _, copies := range []int{1, 2, 7, api.MaxCopies} {
			r := mustNew(t, hosts, copies)
			for _, key := range keys(hosts, copies) {
				want := byHand(hosts, copies, key)
				if got := r.Host(key); got != want[0] {
					t.Fatalf("%q, %d: Host(%d) = %q, wanted %q", hosts, copies, key, got, want[0])
				}
				if got := r.Next(key, len(hosts)); !slices.Equal(got, want) {
					t.Fatalf("%q, %d: Next(%d) = %q, wanted %q", hosts, copies, key, got, want)
				}
			}
		}
	}
}

// P30: at a point itself the key is its host's; one further it is the next one's; beyond all points, the least one's.
func TestHostAtThePoints(t *testing.T) {
	hosts := []string{"c", "a", "b"}
	r := mustNew(t, hosts, 2)
	owner := map[uint64]string{}
	for _, host := range hosts {
		owner[mix.Of(host, 1000)] = host
		owner[mix.Of(host, 1001)] = host
	}
	all := places(hosts, 2)
	for i, p := range all {
		next := owner[all[(i+1)%len(all)]]
		if at, behind := r.Host(unturn(p)), r.Host(unturn(p+1)); at != owner[p] || behind != next {
			t.Errorf("point %d: %q, %q, wanted %q, %q", i, at, behind, owner[p], next)
		}
	}
	if got, want := r.Host(unturn(math.MaxUint64)), owner[all[0]]; got != want {
		t.Errorf("beyond all points: %q, wanted %q", got, want)
	}
}

// P30: of hosts with the same point the one whose name is less.
func TestHostsWithTheSamePoints(t *testing.T) {
	for c := range uint64(api.MaxCopies) {
		if mix.Of(twinLess, 1000+c) != mix.Of(twinMore, 1000+c) {
			t.Fatal("these are no twins", c)
		}
	}
	for _, hosts := range [][]string{{twinLess, twinMore}, {twinMore, twinLess}} {
		for copies := 1; copies <= api.MaxCopies; copies++ {
			r := mustNew(t, hosts, copies)
			for _, key := range keys(hosts, copies) {
				if got := r.Next(key, 2); r.Host(key) != twinLess || !slices.Equal(got, []string{twinLess, twinMore}) {
					t.Fatalf("%q, %d, %d: %q, %q", hosts, copies, key, r.Host(key), got)
				}
			}
		}
	}
}

// P30
func TestNextTellsAtMostSoMany(t *testing.T) {
	for _, hosts := range lists() {
		r := mustNew(t, hosts, 3)
		for key := range uint64(20) {
			all := byHand(hosts, 3, key)
			for many := range len(hosts) + 3 {
				if got := r.Next(key, many); !slices.Equal(got, all[:min(many, len(all))]) {
					t.Errorf("%q: Next(%d, %d) = %q, wanted the first of %q", hosts, key, many, got, all)
				}
			}
			if got := r.Next(key, math.MaxInt); !slices.Equal(got, all) {
				t.Errorf("%q: Next(%d, all) = %q, wanted %q", hosts, key, got, all)
			}
			for _, many := range []int{0, -1, math.MinInt} {
				if got := r.Next(key, many); len(got) != 0 {
					t.Errorf("%q: Next(%d, %d) = %q", hosts, key, many, got)
				}
			}
		}
	}
}

func wantBare(t *testing.T, what string, r *Ring, err, want error) {
	t.Helper()
	if r != nil || err != want {
		t.Errorf("%s: %v, %v, wanted no ring, %v, bare", what, r, err, want)
	}
}

func wantFault(t *testing.T, what string, r *Ring, err error, at int, want error) {
	t.Helper()
	f, ok := err.(*api.Fault)
	if r != nil || !ok || f.At != at || f.Err != want || !errors.Is(err, want) {
		t.Errorf("%s: %v, %#v, wanted no ring, %v at %d", what, r, err, want, at)
	}
}

// P30, P3
func TestNewWrongInputs(t *testing.T) {
	many := strings.Split("a b c d e f g h i j k l m", " ")
	wrong := []int{0, -1, api.MaxCopies + 1, math.MinInt, math.MaxInt}
	for _, copies := range append([]int{1, api.MaxCopies}, wrong...) { // the hosts' errors come first
		r, err := New(nil, copies)
		wantBare(t, "no hosts", r, err, api.ErrNone)
		r, err = New([]string{}, copies)
		wantBare(t, "no hosts", r, err, api.ErrNone)
		r, err = New(many, copies)
		wantBare(t, "too many hosts", r, err, api.ErrBound)
		r, err = New([]string{"a", "b", "B"}, copies)
		wantFault(t, "a wrong name", r, err, 2, api.ErrName)
		r, err = New([]string{"b", "a", "b"}, copies)
		wantFault(t, "a name twice", r, err, 2, api.ErrExist)
	}
	for _, copies := range wrong {
		r, err := New([]string{"b", "a"}, copies)
		wantBare(t, "wrong copies", r, err, api.ErrBound)
	}
	r := mustNew(t, many[:api.MaxHosts], api.MaxCopies)
	if got := r.Next(1, api.MaxHosts); len(got) != api.MaxHosts {
		t.Errorf("as many hosts as may be: %q", got)
	}
}

// P1: also what New answers beside an error may be asked.
func TestNoRing(t *testing.T) {
	r, err := New(nil, 1)
	if err == nil {
		t.Fatal("no hosts, and no error")
	}
	if host, next := r.Host(1), r.Next(1, 3); host != "" || len(next) != 0 {
		t.Errorf("of no ring: %q, %q", host, next)
	}
}

// P31
func TestWhoGoesAndWhoComes(t *testing.T) {
	for _, hosts := range lists() {
		for _, copies := range []int{1, 4, api.MaxCopies} {
			all := mustNew(t, hosts, copies)
			for i, gone := range hosts {
				left := slices.Delete(slices.Clone(hosts), i, i+1)
				if len(left) == 0 {
					continue
				}
				less := mustNew(t, left, copies)
				for _, key := range keys(hosts, copies) {
					with, without := all.Host(key), less.Host(key)
					if with != gone && with != without {
						t.Fatalf("%q without %q: key %d goes from %q to %q", hosts, gone, key, with, without)
					}
					if next := all.Next(key, 2); with == gone && without != next[1] {
						t.Fatalf("%q without %q: key %d is with %q, wanted %q", hosts, gone, key, without, next[1])
					}
				}
			}
		}
	}
}

// P31: every host has keys of its own to take along, but for one that stands behind its twin.
func TestEveryHostHasKeys(t *testing.T) {
	for _, hosts := range lists() {
		r, has := mustNew(t, hosts, api.MaxCopies), map[string]int{}
		for _, key := range keys(hosts, api.MaxCopies) {
			has[r.Host(key)]++
		}
		for _, host := range hosts {
			if (has[host] == 0) != (host == twinMore) {
				t.Errorf("%q: %q has %d keys", hosts, host, has[host])
			}
		}
	}
}

// P2: neither the order of the list nor who asks beside makes a difference.
func TestOrderMakesNoDifference(t *testing.T) {
	for _, hosts := range lists() {
		other := slices.Clone(hosts)
		slices.Reverse(other)
		one, two := mustNew(t, hosts, 5), mustNew(t, other, 5)
		var group sync.WaitGroup
		for key := range uint64(50) {
			group.Go(func() {
				if a, b := one.Next(key, 99), two.Next(key, 99); !slices.Equal(a, b) || one.Host(key) != a[0] {
					t.Errorf("key %d: %q, %q, %q", key, a, b, one.Host(key))
				}
			})
		}
		group.Wait()
	}
}

// P3, P4
func TestNothingIsShared(t *testing.T) {
	room := []string{"c", "a", "b", "A", "a"}
	kept := slices.Clone(room)
	hosts := room[:3]
	r := mustNew(t, hosts, 4)
	if !slices.Equal(room, kept) {
		t.Fatalf("New wrote: %q", room)
	}
	want := r.Next(9, 3)
	clear(room)
	got := r.Next(9, 3)
	if !slices.Equal(got, want) || r.Host(9) != want[0] {
		t.Errorf("a later change of the list shows: %q, wanted %q", got, want)
	}
	clear(got)
	if again := r.Next(9, 3); !slices.Equal(again, want) {
		t.Errorf("what was answered is not new: %q, wanted %q", again, want)
	}
}

// P1, P30
func FuzzRing(f *testing.F) {
	f.Add("a b c", 4, uint64(1), 2)
	f.Add("", 0, uint64(0), -1)
	f.Add("a a", 17, uint64(math.MaxUint64), math.MaxInt)
	f.Fuzz(func(t *testing.T, words string, copies int, key uint64, many int) {
		hosts := strings.Split(words, " ")
		r, err := New(hosts, copies)
		if (r == nil) != (err != nil) {
			t.Fatalf("New(%q, %d): %v, %v", hosts, copies, r, err)
		}
		host, next := r.Host(key), r.Next(key, many)
		if err != nil {
			return
		}
		want := byHand(hosts, copies, key)
		if host != want[0] || !slices.Equal(next, want[:min(max(many, 0), len(want))]) {
			t.Errorf("%q, %d: %d, %d: %q, %q, wanted %q", hosts, copies, key, many, host, next, want)
		}
	})
}
