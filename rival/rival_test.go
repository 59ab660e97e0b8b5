package rival

import (
	"errors"
	"math"
	"math/rand"
	"slices"
	"strings"
	"sync"
	"testing"

	"levelhand/api"
	"levelhand/mix"
)

// The texts of these two names have one number, so that their scores are the same for every key.
const (
	twinLess = "gqkjcuufakek"
	twinMore = "ovszkaa2hd4w"
)

// lists of hosts: each length, names by chance from a fixed seed, in no order; and some with twins.
func lists() [][]string {
	r := rand.New(rand.NewSource(4))
	out := [][]string{{twinLess, twinMore}, {twinMore, twinLess}, {twinMore, "m", twinLess, "a"}, {"z", twinLess, "b", twinMore}}
	for many := 1; many <= api.MaxHosts; many++ {
		var l []string
		for len(l) < many {
			s := string(rune('a' + r.Intn(26)))
			for range r.Intn(api.MaxName) {
				s += string("abcxyz019-"[r.Intn(10)])
			}
			if !slices.Contains(l, s) {
				l = append(l, s)
			}
		}
		out = append(out, l)
	}
	return out
}

// keys to ask for: small ones, great ones, and some by a rule, in no order; one of them twice.
func keys() []uint64 {
	l := []uint64{math.MaxUint64, 7, 0, 1 << 63, 1<<63 - 1, 7}
	for k := range uint64(150) {
		l = append(l, k*k*0x9E3779B97F4A7C15, ^k)
	}
	return l
}

// beats: whether host a is ahead of host b, by the words of the chapter.
func beats(a, b string, key uint64) bool {
	x, y := mix.Two(mix.Of(a, 3), key), mix.Two(mix.Of(b, 3), key)
	return x > y || x == y && a < b
}

// byHand tells the order without sorting: a host's place is how many are ahead of it.
func byHand(hosts []string, key uint64) []string {
	order := make([]string, len(hosts))
	for _, a := range hosts {
		ahead := 0
		for _, b := range hosts {
			if beats(b, a, key) {
				ahead++
			}
		}
		order[ahead] = a
	}
	return order
}

func mustOrder(t *testing.T, hosts []string, key uint64) []string {
	t.Helper()
	order, err := Order(hosts, key)
	if err != nil || len(order) != len(hosts) {
		t.Fatalf("Order(%q, %d): %q, %v", hosts, key, order, err)
	}
	return order
}

func mustHost(t *testing.T, hosts []string, key uint64) string {
	t.Helper()
	host, err := Host(hosts, key)
	if err != nil {
		t.Fatalf("Host(%q, %d): %q, %v", hosts, key, host, err)
	}
	return host
}

func mustGroups(t *testing.T, hosts []string, keys []uint64) [][]uint64 {
	t.Helper()
	groups, err := Groups(hosts, keys)
	if err != nil || len(groups) != len(hosts) {
		t.Fatalf("Groups(%q, %d keys): %d groups, %v", hosts, len(keys), len(groups), err)
	}
	return groups
}

// P40: numbers that were worked out apart from this program; a score asks nothing of its name.
func TestScoreKnownNumbers(t *testing.T) {
	for _, c := range []struct {
		name string
		key  uint64
		want uint64
	}{
		{"", 0, 0x8C540EB6058D36B4},
		{"a", 0, 0xAC71C867F9E6BC5C},
		{"a", 1, 0xE6F68F52CA054939},
		{"web-1", 42, 0x9B96BDDD34CC1340},
		{"abcdefghijkl", math.MaxUint64, 0x386CF932DBFE1290},
		{"é", 1 << 63, 0x147FBA6163B65A4D},
	} {
		if got := Score(c.name, c.key); got != c.want {
			t.Errorf("Score(%q, %d) = %#x, wanted %#x", c.name, c.key, got, c.want)
		}
	}
}

// P40
func TestScoreIsOfNameAndKey(t *testing.T) {
	for _, hosts := range append(lists(), []string{"", "A", "-", "\x00\xff", strings.Repeat("long ", 4000)}) {
		for _, host := range hosts {
			for _, key := range keys() {
				if got, want := Score(host, key), mix.Two(mix.Of(host, 3), key); got != want {
					t.Fatalf("Score(%.20q, %d) = %#x, wanted %#x", host, key, got, want)
				}
			}
		}
	}
}

// P40: orders that were worked out apart from this program.
func TestOrderKnownOnes(t *testing.T) {
	for key, want := range []string{"a b c d", "a c b d", "c a b d", "b d c a", "a b c d", "a c b d", "b c a d", "a d c b"} {
		got := mustOrder(t, []string{"b", "a", "c", "d"}, uint64(key))
		if strings.Join(got, " ") != want {
			t.Errorf("key %d: %q, wanted %s", key, got, want)
		}
		if host := mustHost(t, []string{"b", "a", "c", "d"}, uint64(key)); host != want[:1] {
			t.Errorf("key %d: %q, wanted %s", key, host, want[:1])
		}
	}
}

// P40
func TestHostAndOrderGoByScore(t *testing.T) {
	for _, hosts := range lists() {
		for _, key := range keys() {
			want := byHand(hosts, key)
			if got := mustOrder(t, hosts, key); !slices.Equal(got, want) {
				t.Fatalf("Order(%q, %d) = %q, wanted %q", hosts, key, got, want)
			}
			if got := mustHost(t, hosts, key); got != want[0] {
				t.Fatalf("Host(%q, %d) = %q, wanted %q", hosts, key, got, want[0])
			}
		}
	}
}

// P40: of the same scores the one whose name is less.
func TestHostsOfTheSameScore(t *testing.T) {
	want := []string{twinLess, twinMore}
	for _, hosts := range [][]string{{twinLess, twinMore}, {twinMore, twinLess}} {
		for _, key := range keys() {
			if Score(twinLess, key) != Score(twinMore, key) {
				t.Fatal("these are no twins", key)
			}
			if got := mustOrder(t, hosts, key); mustHost(t, hosts, key) != twinLess || !slices.Equal(got, want) {
				t.Errorf("%q, %d: %q", hosts, key, got)
			}
		}
	}
}

// wantBare: all three calls answer the error, bare, and nothing with it.
func wantBare(t *testing.T, hosts []string, keys []uint64, want error) {
	t.Helper()
	for what, err := range errorsOf(t, hosts, keys) {
		if err != want {
			t.Errorf("%s of %q: %v, wanted %v, bare", what, hosts, err, want)
		}
	}
}

// wantFault: all three calls answer the error with its place, and nothing with it.
func wantFault(t *testing.T, hosts []string, keys []uint64, at int, want error) {
	t.Helper()
	for what, err := range errorsOf(t, hosts, keys) {
		f, ok := err.(*api.Fault)
		if !ok || f.At != at || f.Err != want || !errors.Is(err, want) {
			t.Errorf("%s of %q: %#v, wanted %v at %d", what, hosts, err, want, at)
		}
	}
}

// errorsOf the three calls, by name, where each must answer one.
func errorsOf(t *testing.T, hosts []string, keys []uint64) map[string]error {
	t.Helper()
	host, fromHost := Host(hosts, 5)
	order, fromOrder := Order(hosts, 5)
	groups, fromGroups := Groups(hosts, keys)
	if host != "" || len(order) != 0 || len(groups) != 0 {
		t.Errorf("%q: %q, %q, %d beside an error", hosts, host, order, groups)
	}
	return map[string]error{"Host": fromHost, "Order": fromOrder, "Groups": fromGroups}
}

// P40, P41, P3: the errors of the hosts, in their order; they come ahead of that of the keys.
func TestWrongHosts(t *testing.T) {
	many := strings.Split("a b c d e f g h i j k l m", " ")
	for _, keys := range [][]uint64{nil, {}, {1, 2}, make([]uint64, api.MaxKeys), make([]uint64, api.MaxKeys+1)} {
		wantBare(t, nil, keys, api.ErrNone)
		wantBare(t, []string{}, keys, api.ErrNone)
		wantBare(t, many, keys, api.ErrBound)
		wantBare(t, make([]string, api.MaxHosts+1), keys, api.ErrBound)
		wantFault(t, []string{""}, keys, 0, api.ErrName)
		wantFault(t, []string{"a", "b", "B"}, keys, 2, api.ErrName)
		wantFault(t, []string{"a", "abcdefghijklm"}, keys, 1, api.ErrName)
		wantFault(t, []string{"b", "a", "b"}, keys, 2, api.ErrExist)
		wantFault(t, []string{"b", "b", "B"}, keys, 1, api.ErrExist)
	}
	if got := mustOrder(t, many[:api.MaxHosts], 1); len(got) != api.MaxHosts {
		t.Errorf("as many hosts as may be: %q", got)
	}
}

// P41: of each host, as they stand in the list, its keys in their order.
func TestGroupsAreOfHosts(t *testing.T) {
	for _, hosts := range lists() {
		groups := mustGroups(t, hosts, keys())
		for i, host := range hosts {
			var want []uint64
			for _, key := range keys() {
				if byHand(hosts, key)[0] == host {
					want = append(want, key)
				}
			}
			if !slices.Equal(groups[i], want) {
				t.Fatalf("%q: %q has %d, wanted %d", hosts, host, groups[i], want)
			}
		}
	}
}

// P41
func TestGroupsKeepKeysThatComeTwice(t *testing.T) {
	hosts := []string{"b", "a"}
	groups := mustGroups(t, hosts, []uint64{6, 0, 6, 1, 0, 6}) // 6 is with b, 0 and 1 are with a
	if !slices.Equal(groups[0], []uint64{6, 6, 6}) || !slices.Equal(groups[1], []uint64{0, 1, 0}) {
		t.Errorf("%d", groups)
	}
}

// P41
func TestGroupsOfNoKeys(t *testing.T) {
	for _, keys := range [][]uint64{nil, {}} {
		for i, group := range mustGroups(t, []string{"b", "a", "c"}, keys) {
			if len(group) != 0 {
				t.Errorf("group %d: %d", i, group)
			}
		}
	}
}

// P41
func TestGroupsBoundOfKeys(t *testing.T) {
	hosts := []string{"b", "a"}
	groups := mustGroups(t, hosts, make([]uint64, api.MaxKeys))
	if len(groups[0]) != 0 || len(groups[1]) != api.MaxKeys { // key 0 is with a
		t.Errorf("as many keys as may be: %d, %d", len(groups[0]), len(groups[1]))
	}
	for _, many := range []int{api.MaxKeys + 1, 2 * api.MaxKeys, 1 << 20} {
		if groups, err := Groups(hosts, make([]uint64, many)); len(groups) != 0 || err != api.ErrBound {
			t.Errorf("%d keys: %d groups, %v, wanted %v, bare", many, len(groups), err, api.ErrBound)
		}
	}
}

// P42
func TestWhoGoesTakesOnlyItsOwnKeys(t *testing.T) {
	for _, hosts := range lists() {
		for i, gone := range hosts {
			left := slices.Delete(slices.Clone(hosts), i, i+1)
			if len(left) == 0 {
				continue
			}
			for _, key := range keys() {
				order, now := mustOrder(t, hosts, key), mustHost(t, left, key)
				want := order[0]
				if want == gone {
					want = order[1]
				}
				if now != want {
					t.Fatalf("%q without %q: key %d is with %q, wanted %q", hosts, gone, key, now, want)
				}
				rest := slices.DeleteFunc(order, func(s string) bool { return s == gone })
				if got := mustOrder(t, left, key); !slices.Equal(got, rest) {
					t.Fatalf("%q without %q: key %d: %q, wanted %q", hosts, gone, key, got, rest)
				}
			}
		}
	}
}

// P42: in groups, the hosts that stay keep their keys, and have those of the one that goes besides.
func TestGroupsOfWhoStaysOnlyGrow(t *testing.T) {
	hosts := []string{"b", "e", "a", "d", "c"}
	before := mustGroups(t, hosts, keys())
	for i := range hosts {
		if len(before[i]) == 0 {
			t.Fatalf("%q has no keys to take along", hosts[i])
		}
		after := mustGroups(t, slices.Delete(slices.Clone(hosts), i, i+1), keys())
		for j, group := range slices.Delete(slices.Clone(before), i, i+1) {
			stayed := slices.DeleteFunc(slices.Clone(after[j]), func(key uint64) bool { return slices.Contains(before[i], key) })
			if !slices.Equal(stayed, group) {
				t.Errorf("without %q, group %d: %d, wanted %d", hosts[i], j, stayed, group)
			}
		}
	}
}

// P2: neither the order of the list nor who asks beside makes a difference.
func TestOrderOfTheListMakesNoDifference(t *testing.T) {
	for _, hosts := range lists() {
		other := slices.Clone(hosts)
		slices.Reverse(other)
		var group sync.WaitGroup
		for key := range uint64(50) {
			group.Go(func() {
				a, _ := Order(hosts, key)
				b, _ := Order(other, key)
				one, _ := Host(hosts, key)
				two, _ := Host(other, key)
				if !slices.Equal(a, b) || len(a) == 0 || one != a[0] || two != a[0] {
					t.Errorf("key %d: %q, %q, %q, %q", key, a, b, one, two)
				}
			})
		}
		group.Wait()
		turned := mustGroups(t, other, keys())
		slices.Reverse(turned)
		if !slices.EqualFunc(mustGroups(t, hosts, keys()), turned, slices.Equal[[]uint64]) {
			t.Errorf("%q: groups are others in another order", hosts)
		}
	}
}

// fill all the memory that an answer has, also behind its length.
func fill[T any](l []T, with T) {
	l = l[:cap(l)]
	for i := range l {
		l[i] = with
	}
}

// P3, P4
func TestOrderIsNewMemory(t *testing.T) {
	room := []string{"d", "c", "a", "b", "A", "a"}
	kept := slices.Clone(room)
	hosts := room[:4]
	one, two := mustOrder(t, hosts, 9), mustOrder(t, hosts, 9)
	want := slices.Clone(two)
	fill(one, "x")
	if !slices.Equal(room, kept) || !slices.Equal(two, want) {
		t.Errorf("memory is shared: %q, %q", room, two)
	}
	clear(room)
	if !slices.Equal(two, want) {
		t.Errorf("a later change of the list shows: %q, wanted %q", two, want)
	}
}

// P3, P4
func TestGroupsAreNewMemory(t *testing.T) {
	names, numbers := []string{"d", "c", "a", "b", "A", "a"}, append(keys(), 1, 2, 3)
	keptNames, keptNumbers := slices.Clone(names), slices.Clone(numbers)
	hosts, some := names[:4], numbers[:len(numbers)-3]
	want, again := mustGroups(t, hosts, some), mustGroups(t, hosts, some)
	got := mustGroups(t, hosts, some)
	for i := range got {
		fill(got[i], 12345)
		for j := i + 1; j < len(got); j++ {
			if !slices.Equal(got[j], want[j]) {
				t.Errorf("groups %d and %d share memory", i, j)
			}
		}
	}
	if !slices.Equal(names, keptNames) || !slices.Equal(numbers, keptNumbers) {
		t.Errorf("what was handed over became %q, %d", names, numbers)
	}
	clear(names)
	clear(numbers)
	if !slices.EqualFunc(again, want, slices.Equal[[]uint64]) {
		t.Errorf("memory is shared: %d, wanted %d", again, want)
	}
}

// P1, P40, P41
func FuzzRivals(f *testing.F) {
	f.Add("a b c", uint64(1), 3)
	f.Add("", uint64(0), 0)
	f.Add("a a", uint64(math.MaxUint64), api.MaxKeys+1)
	f.Fuzz(func(t *testing.T, words string, key uint64, many int) {
		hosts, numbers := strings.Split(words, " "), make([]uint64, min(max(many, 0), 2*api.MaxKeys))
		for i := range numbers {
			numbers[i] = key + uint64(i)
		}
		host, fromHost := Host(hosts, key)
		order, fromOrder := Order(hosts, key)
		groups, fromGroups := Groups(hosts, numbers)
		wrong := mix.Check(hosts) != nil
		if (fromHost != nil) != wrong || (fromOrder != nil) != wrong || (fromGroups != nil) != (wrong || len(numbers) > api.MaxKeys) {
			t.Fatalf("%q: %v, %v, %v", hosts, fromHost, fromOrder, fromGroups)
		}
		if wrong {
			return
		}
		if want := byHand(hosts, key); host != want[0] || !slices.Equal(order, want) {
			t.Errorf("%q, %d: %q, %q, wanted %q", hosts, key, host, order, want)
		}
		for i, group := range groups {
			for _, k := range group {
				if byHand(hosts, k)[0] != hosts[i] {
					t.Errorf("%q: key %d is with %q", hosts, k, hosts[i])
				}
			}
		}
	})
}
