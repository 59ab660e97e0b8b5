package fill

import (
	"encoding/binary"
	"errors"
	"math"
	"math/rand"
	"slices"
	"strings"
	"sync"
	"testing"

	"levelhand/api"
	"levelhand/mix"
)

// The texts of these two names have one number, so that on a ring the lesser one always comes first.
const (
	twinLess = "gqkjcuufakek"
	twinMore = "ovszkaa2hd4w"
)

// lists of hosts: each length, names by chance from a fixed seed, in no order; and some with twins.
func lists() [][]string {
	r := rand.New(rand.NewSource(61))
	out := [][]string{{twinMore, twinLess}, {twinMore, "m", twinLess, "a"}}
	for many := 1; many <= api.MaxHosts; many++ {
		var l []string
		for len(l) < many {
			s := string(rune('a' + r.Intn(26)))
			for range r.Intn(api.MaxName) {
				s += string("abcxyz019-"[r.Intn(10)])
			}
			if !slices.Contains(l, s) {
				l = append(l, s)
			}
		}
		out = append(out, l)
	}
	return out
}

// someKeys by chance from a seed, no two the same.
func someKeys(many int, seed int64) []uint64 {
	r := rand.New(rand.NewSource(seed))
	var l []uint64
	for len(l) < many {
		if key := r.Uint64() >> uint(r.Intn(64)); !slices.Contains(l, key) {
			l = append(l, key)
		}
	}
	return l
}

// wayOf a key round the ring, told without a ring: numbers of hosts, each by how far its nearest point is, upwards.
func wayOf(hosts []string, copies int, key uint64) []int {
	far := make([]uint64, len(hosts))
	way := make([]int, len(hosts))
	for i, host := range hosts {
		way[i], far[i] = i, math.MaxUint64
		for c := range copies {
			far[i] = min(far[i], mix.Of(host, 1000+uint64(c))-mix.Turn(key))
		}
	}
	slices.SortFunc(way, func(a, b int) int {
		if far[a] < far[b] || far[a] == far[b] && hosts[a] < hosts[b] {
			return -1
		}
		return 1
	})
	return way
}

// capByHand counts up instead of dividing.
func capByHand(keys, hosts, percent int) int {
	most := 0
	for most*100*hosts < keys*(100+percent) {
		most++
	}
	return most
}

func byHand(hosts []string, copies int, keys []uint64, percent int) []int {
	most, has := capByHand(len(keys), len(hosts), percent), make([]int, len(hosts))
	var places []int
	for _, key := range keys {
		for _, h := range wayOf(hosts, copies, key) {
			if has[h] < most {
				has[h]++
				places = append(places, h)
				break
			}
		}
	}
	return places
}

func mustPlace(t *testing.T, hosts []string, copies int, keys []uint64, percent int) []int {
	t.Helper()
	places, err := Place(hosts, copies, keys, percent)
	if err != nil {
		t.Fatalf("Place(%q, %d, %d, %d): %v", hosts, copies, keys, percent, err)
	}
	return places
}

// P60
func TestCapOfSome(t *testing.T) {
	for _, c := range []struct{ keys, hosts, percent, want int }{
		{0, 1, 0, 0}, {0, 12, 100, 0}, {1, 1, 0, 1}, {1, 1, 1, 2}, {1, 12, 0, 1}, {1, 12, 100, 1},
		{12, 12, 0, 1}, {12, 12, 1, 2}, {13, 12, 0, 2}, {100, 3, 0, 34}, {99, 3, 0, 33}, {100, 1, 1, 101},
		{100, 4, 20, 30}, {100, 4, 21, 31}, {500, 1, 0, 500}, {500, 1, 100, 1000}, {500, 12, 0, 42}, {500, 12, 100, 84},
	} {
		if got, err := Cap(c.keys, c.hosts, c.percent); got != c.want || err != nil {
			t.Errorf("Cap(%d, %d, %d) = %d, %v, wanted %d", c.keys, c.hosts, c.percent, got, err, c.want)
		}
	}
}

// P60: of every number of keys, hosts and percents; and the hosts' caps together hold all keys (P61).
func TestCapOfAll(t *testing.T) {
	for hosts := 1; hosts <= api.MaxHosts; hosts++ {
		for percent := range 101 {
			most := 0 // never falls as keys come
			for keys := range api.MaxKeys + 1 {
				for most*100*hosts < keys*(100+percent) {
					most++
				}
				got, err := Cap(keys, hosts, percent)
				if got != most || err != nil || got*hosts < keys {
					t.Fatalf("Cap(%d, %d, %d) = %d, %v, wanted %d", keys, hosts, percent, got, err, most)
				}
			}
		}
	}
}

// P60, P3
func TestCapWrongInputs(t *testing.T) {
	wrong := func(keys, hosts, percent int) {
		t.Helper()
		if got, err := Cap(keys, hosts, percent); got != 0 || err != api.ErrBound {
			t.Errorf("Cap(%d, %d, %d) = %d, %v, wanted 0, %v, bare", keys, hosts, percent, got, err, api.ErrBound)
		}
	}
	for _, n := range []int{-1, api.MaxKeys + 1, math.MinInt, math.MaxInt} {
		wrong(n, 3, 10)
	}
	for _, n := range []int{0, -1, api.MaxHosts + 1, math.MinInt, math.MaxInt} {
		wrong(10, n, 10)
		wrong(0, n, 0)
	}
	for _, n := range []int{-1, 101, math.MinInt, math.MaxInt} {
		wrong(10, 3, n)
		wrong(0, 3, n)
	}
}

// P60: numbers that were worked out apart from the program.
func TestPlaceOfSome(t *testing.T) {
	web, twins := []string{"web-2", "web-1", "web-3"}, []string{twinMore, twinLess}
	twelve := []uint64{1, 2, 3, 4, 5, 6, 7, 8, 9, 10, 11, 12}
	edges := []uint64{math.MaxUint64, 0, 1 << 63, 1<<63 - 1, math.MaxUint64 - 1, 7}
	for i, c := range []struct {
		hosts   []string
		copies  int
		keys    []uint64
		percent int
		want    []int
	}{
		{web, 1, twelve, 0, []int{0, 2, 1, 0, 0, 1, 0, 2, 2, 1, 2, 1}},
		{web, 1, twelve, 25, []int{0, 2, 1, 0, 0, 1, 0, 2, 2, 1, 0, 2}},
		{web, 1, twelve, 100, []int{0, 2, 1, 0, 0, 1, 0, 2, 2, 1, 0, 0}},
		{web, 8, twelve, 0, []int{2, 1, 1, 1, 0, 0, 0, 1, 0, 2, 2, 2}},
		{[]string{"d", "b", "a", "c", "e"}, 3, twelve, 10, []int{1, 1, 4, 1, 3, 0, 3, 0, 0, 2, 4, 2}},
		{[]string{"only"}, 16, twelve, 50, make([]int, 12)},
		{twins, 4, twelve, 0, []int{1, 1, 1, 1, 1, 1, 0, 0, 0, 0, 0, 0}},
		{twins, 4, twelve, 50, []int{1, 1, 1, 1, 1, 1, 1, 1, 1, 0, 0, 0}},
		{twins, 4, twelve, 100, []int{1, 1, 1, 1, 1, 1, 1, 1, 1, 1, 1, 1}},
		{[]string{"b", "a", "c"}, 2, edges, 0, []int{1, 1, 2, 2, 0, 0}},
		{[]string{"b", "a", "c"}, 2, edges, 50, []int{1, 1, 2, 2, 1, 2}},
		{web, 1, nil, 0, nil},
		{web, 1, []uint64{}, 100, nil},
	} {
		if got := mustPlace(t, c.hosts, c.copies, c.keys, c.percent); !slices.Equal(got, c.want) {
			t.Errorf("%d: %d, wanted %d", i, got, c.want)
		}
	}
}

// P60
func TestPlaceByHand(t *testing.T) {
	for _, hosts := range lists() {
		for _, copies := range []int{1, 3, api.MaxCopies} {
			for _, many := range []int{1, 2, len(hosts), len(hosts) + 1, 97} {
				keys := someKeys(many, int64(many))
				for _, percent := range []int{0, 1, 25, 99, 100} {
					got, want := mustPlace(t, hosts, copies, keys, percent), byHand(hosts, copies, keys, percent)
					if !slices.Equal(got, want) {
						t.Fatalf("Place(%q, %d, %d, %d) = %d, wanted %d", hosts, copies, keys, percent, got, want)
					}
				}
			}
		}
	}
}

// P61
func TestNoneHasMoreThanCap(t *testing.T) {
	for _, hosts := range lists() {
		for _, many := range []int{0, 1, 11, 240, api.MaxKeys} {
			keys := someKeys(many, 7)
			for _, percent := range []int{0, 7, 100} {
				places := mustPlace(t, hosts, 2, keys, percent)
				if len(places) != many {
					t.Fatalf("%q, %d: %d keys have a host", hosts, many, len(places))
				}
				has, most := make([]int, len(hosts)), capByHand(many, len(hosts), percent)
				for _, h := range places {
					if h < 0 || h >= len(hosts) {
						t.Fatalf("%q: no host has the number %d", hosts, h)
					}
					has[h]++
				}
				if slices.Max(has) > most {
					t.Errorf("%q, %d, %d: %d, wanted at most %d", hosts, many, percent, has, most)
				}
			}
		}
	}
}

// P61: where the cap leaves no room beyond the keys, all hosts are full.
func TestAllAreFull(t *testing.T) {
	for _, hosts := range lists() {
		has := make([]int, len(hosts))
		for _, h := range mustPlace(t, hosts, 1, someKeys(20*len(hosts), 8), 0) {
			has[h]++
		}
		if slices.Min(has) != 20 || slices.Max(has) != 20 {
			t.Errorf("%q: %d, wanted 20 each", hosts, has)
		}
	}
}

func wantBare(t *testing.T, what string, places []int, err, want error) {
	t.Helper()
	if len(places) != 0 || err != want {
		t.Errorf("%s: %d, %v, wanted nothing, %v, bare", what, places, err, want)
	}
}

func wantFault(t *testing.T, what string, places []int, err error, at int, want error) {
	t.Helper()
	f, ok := err.(*api.Fault)
	if len(places) != 0 || !ok || f.At != at || f.Err != want || !errors.Is(err, want) {
		t.Errorf("%s: %d, %#v, wanted nothing, %v at %d", what, places, err, want, at)
	}
}

// P60, P3: the ring's errors come first, whatever the keys and the percents are.
func TestPlaceWrongHostsAndCopies(t *testing.T) {
	thirteen := strings.Split("a b c d e f g h i j k l m", " ")
	for _, keys := range [][]uint64{nil, {1, 2}, {1, 1}, make([]uint64, api.MaxKeys+1)} {
		for _, percent := range []int{0, 100, -1, 101} {
			places, err := Place(nil, 2, keys, percent)
			wantBare(t, "no hosts", places, err, api.ErrNone)
			places, err = Place([]string{}, 0, keys, percent)
			wantBare(t, "no hosts", places, err, api.ErrNone)
			places, err = Place(thirteen, 2, keys, percent)
			wantBare(t, "too many hosts", places, err, api.ErrBound)
			places, err = Place([]string{"a", "b", "B"}, 0, keys, percent)
			wantFault(t, "a wrong name", places, err, 2, api.ErrName)
			places, err = Place([]string{"b", "a", "b"}, 0, keys, percent)
			wantFault(t, "a name twice", places, err, 2, api.ErrExist)
			for _, copies := range []int{0, -1, api.MaxCopies + 1, math.MinInt, math.MaxInt} {
				places, err = Place([]string{"b", "a"}, copies, keys, percent)
				wantBare(t, "wrong copies", places, err, api.ErrBound)
			}
		}
	}
}

// P60, P3
func TestPlaceWrongKeysAndPercents(t *testing.T) {
	hosts := []string{"b", "a"}
	places, err := Place(hosts, 2, make([]uint64, api.MaxKeys+1), 0) // the bound comes ahead of a key twice
	wantBare(t, "too many keys", places, err, api.ErrBound)
	places, err = Place(hosts, 2, someKeys(api.MaxKeys+1, 1), 0)
	wantBare(t, "too many keys", places, err, api.ErrBound)
	for _, percent := range []int{-1, 101, math.MinInt, math.MaxInt} {
		for _, keys := range [][]uint64{nil, {1, 2}, {1, 1}} {
			places, err = Place(hosts, 2, keys, percent)
			wantBare(t, "wrong percent", places, err, api.ErrBound)
		}
	}
	for _, c := range []struct {
		keys []uint64
		at   int
	}{
		{[]uint64{0, 0}, 1}, {[]uint64{1, 2, 3, 2, 1}, 3}, {[]uint64{1, 2, 3, 1, 2}, 3}, {[]uint64{5, 6, 6, 5, 5}, 2},
		{[]uint64{math.MaxUint64, 0, math.MaxUint64}, 2}, {[]uint64{1 << 32, 0, 1, 1 << 63, 1<<32 + 1, 1 << 32}, 5},
	} {
		places, err = Place(hosts, 2, c.keys, 100)
		wantFault(t, "a key twice", places, err, c.at, api.ErrExist)
	}
	last := someKeys(api.MaxKeys, 1)
	last[api.MaxKeys-1] = last[0]
	places, err = Place(hosts, 2, last, 0)
	wantFault(t, "the last key twice", places, err, api.MaxKeys-1, api.ErrExist)
}

// P2: neither the order of the hosts nor who asks beside makes a difference to which host a key goes to.
func TestOrderMakesNoDifference(t *testing.T) {
	keys := someKeys(60, 5)
	for _, hosts := range lists() {
		other := slices.Clone(hosts)
		slices.Reverse(other)
		want := byHand(hosts, 3, keys, 5)
		var group sync.WaitGroup
		for range 4 {
			group.Go(func() {
				one, err1 := Place(hosts, 3, keys, 5)
				two, err2 := Place(other, 3, keys, 5)
				for i := range two {
					two[i] = len(hosts) - 1 - two[i]
				}
				if err1 != nil || err2 != nil || !slices.Equal(one, want) || !slices.Equal(two, want) {
					t.Errorf("%q: %d, %v, %d, %v, wanted %d", hosts, one, err1, two, err2, want)
				}
			})
		}
		group.Wait()
	}
}

// P3, P4
func TestNothingIsShared(t *testing.T) {
	names, numbers := []string{"c", "a", "b", "A", "a"}, []uint64{9, 8, 7, 6, 5, 9, 9}
	keptNames, keptNumbers := slices.Clone(names), slices.Clone(numbers)
	hosts, keys := names[:3], numbers[:5]
	want := byHand(hosts, 4, keys, 20)
	got := mustPlace(t, hosts, 4, keys, 20)
	if !slices.Equal(got, want) {
		t.Fatalf("what lies behind the lists was read: %d, wanted %d", got, want)
	}
	got = got[:cap(got)]
	for i := range got {
		got[i] = -1
	}
	if !slices.Equal(names, keptNames) || !slices.Equal(numbers, keptNumbers) {
		t.Errorf("Place wrote: %q, %d", names, numbers)
	}
	if again := mustPlace(t, hosts, 4, keys, 20); !slices.Equal(again, want) {
		t.Errorf("what was answered is not new: %d, wanted %d", again, want)
	}
}

// P1, P60, P61
func FuzzPlace(f *testing.F) {
	f.Add("a b c", 4, []byte("12345678abcdefgh........"), 10)
	f.Add("", 0, []byte(nil), -1)
	f.Add("a a", 17, []byte("1234567812345678"), 101)
	f.Add("a b", 1, make([]byte, 16), 0)
	f.Fuzz(func(t *testing.T, words string, copies int, bytes []byte, percent int) {
		hosts := strings.Split(words, " ")
		var keys []uint64
		for ; len(bytes) >= 8; bytes = bytes[8:] {
			keys = append(keys, binary.LittleEndian.Uint64(bytes))
		}
		most, capErr := Cap(len(keys), len(hosts), percent)
		places, err := Place(hosts, copies, keys, percent)
		if err != nil && len(places) != 0 || capErr != nil && (most != 0 || err == nil) {
			t.Fatalf("%q, %d, %d, %d: %d, %v, %d, %v", hosts, copies, keys, percent, places, err, most, capErr)
		}
		if err == nil && !slices.Equal(places, byHand(hosts, copies, keys, percent)) {
			t.Errorf("%q, %d, %d, %d: %d", hosts, copies, keys, percent, places)
		}
	})
}
