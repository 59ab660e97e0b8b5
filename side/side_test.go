package side

import (
	"errors"
	"math"
	"slices"
	"strconv"
	"strings"
	"sync"
	"testing"

	"levelhand/api"
	"levelhand/jump"
	"levelhand/plain"
	"levelhand/table"
)

// wrongWorkers: counts that none may work by.
var wrongWorkers = []int{0, -1, -16, api.Workers + 1, 100, math.MinInt, math.MaxInt}

// lists of hosts, each written as words.
func lists(texts ...string) [][]string {
	var l [][]string
	for _, text := range texts {
		l = append(l, strings.Fields(text))
	}
	return l
}

// manyLists: so many of them, hardly two alike.
func manyLists(many int) [][]string {
	var l [][]string
	for i := range many {
		var hosts []string
		for k := range 1 + i%api.MaxHosts {
			hosts = append(hosts, "h"+strconv.Itoa((i*7+k*5)%61))
		}
		l = append(l, hosts)
	}
	return l
}

// manyKeys: so many of them, small and great ones in turn.
func manyKeys(many int) []uint64 {
	var l []uint64
	for k := range uint64(many) {
		l = append(l, k*(k&1)*0x9E3779B97F4A7C15+k)
	}
	return l
}

func wantList(t *testing.T, what string, workers int, got []int, err error, want []int) {
	t.Helper()
	if err != nil || !slices.Equal(got, want) {
		t.Errorf("%s by %d: %v, %v, wanted %v", what, workers, got, err, want)
	}
}

func wantBare(t *testing.T, what string, got []int, err, want error) {
	t.Helper()
	if len(got) != 0 || err != want {
		t.Errorf("%s: %v, %v, wanted none, %v, bare", what, got, err, want)
	}
}

// wantFault: the error is told with the place of what has it, and with no other place inside.
func wantFault(t *testing.T, what string, got []int, err error, at int, want error) {
	t.Helper()
	f, ok := err.(*api.Fault)
	if len(got) != 0 || !ok || f.At != at || f.Err != want || !errors.Is(err, want) {
		t.Errorf("%s: %v, %#v, wanted none, %v at %d", what, got, err, want, at)
	}
}

// P120, P121: moves that were worked out apart from this program.
func TestKnownMoves(t *testing.T) {
	a := []string{"web-1", "web-2", "db"}
	l := lists("web-1 web-2", "db web-2 web-1", "web-1 web-2 db x", "db", "x y", "a b c d e f g h i j k l", "web-3 web-2 db")
	for workers := 1; workers <= api.Workers; workers++ {
		for size, want := range map[int][]int{
			2:   {1, 0, 0, 1, 2, 2, 1},
			31:  {12, 0, 9, 20, 31, 31, 15},
			503: {169, 0, 132, 335, 503, 503, 260},
		} {
			got, err := Moves(a, l, size, workers)
			wantList(t, "moves", workers, got, err, want)
		}
		got, err := Moves(strings.Fields("a b c"), lists("a", "b", "c", "d"), 31, workers)
		wantList(t, "moves to one", workers, got, err, []int{20, 21, 21, 31})
	}
}

// P120, P121: buckets that were worked out apart from this program.
func TestKnownBuckets(t *testing.T) {
	keys := []uint64{0, 1, 2, 42, 1 << 63, math.MaxUint64, 42}
	for workers := 1; workers <= api.Workers; workers++ {
		for n, want := range map[int][]int{
			1:           {0, 0, 0, 0, 0, 0, 0},
			2:           {0, 0, 0, 1, 1, 1, 1},
			10:          {0, 6, 6, 2, 5, 9, 2},
			500:         {0, 493, 338, 43, 453, 313, 43},
			api.MaxJump: {0, 985611, 152951, 153897, 802256, 589430, 153897},
		} {
			got, err := Buckets(keys, n, workers)
			wantList(t, "buckets", workers, got, err, want)
		}
	}
}

// P120, P121: one by one it is the same, of each count up to the bound.
func TestMovesOfManyLists(t *testing.T) {
	a := strings.Fields("h5 h0 h7 h12")
	l := manyLists(100)
	var want []int
	for i, b := range l {
		n, err := table.Moves(a, b, 31)
		if err != nil {
			t.Fatal(i, b, err)
		}
		want = append(want, n)
	}
	for _, many := range []int{0, 1, 2, 3, 15, 16, 17, 99, 100} {
		for workers := 1; workers <= api.Workers; workers++ {
			got, err := Moves(a, l[:many], 31, workers)
			wantList(t, "moves", workers, got, err, want[:many])
		}
	}
}

// P120, P121: one by one it is the same, of each count up to the bound.
func TestBucketsOfManyKeys(t *testing.T) {
	keys := manyKeys(api.MaxKeys)
	var want []int
	for _, key := range keys {
		b, err := jump.Bucket(key, 1000)
		if err != nil {
			t.Fatal(key, err)
		}
		want = append(want, b)
	}
	for _, many := range []int{0, 1, 2, 3, 15, 16, 17, 499, 500} {
		for workers := 1; workers <= api.Workers; workers++ {
			got, err := Buckets(keys[:many], 1000, workers)
			wantList(t, "buckets", workers, got, err, want[:many])
		}
	}
}

// P120: workers from 1 to Workers, and none beyond, whatever else is wrong.
func TestWrongWorkers(t *testing.T) {
	for _, workers := range wrongWorkers {
		for _, l := range [][][]string{nil, lists("a b", "c"), lists("A"), make([][]string, 100), manyLists(101), make([][]string, 1000)} {
			for _, size := range []int{31, 0, 4} {
				for _, a := range lists("a b", "", "A") {
					got, err := Moves(a, l, size, workers)
					wantBare(t, "moves", got, err, api.ErrShape)
				}
			}
		}
		for _, keys := range [][]uint64{nil, {5}, manyKeys(500), manyKeys(501)} {
			for _, n := range []int{10, 0, -1, api.MaxJump + 1} {
				got, err := Buckets(keys, n, workers)
				wantBare(t, "buckets", got, err, api.ErrShape)
			}
		}
	}
}

// P120: more lists or keys than may be, ahead of what is wrong in them.
func TestTooMany(t *testing.T) {
	for workers := 1; workers <= api.Workers; workers++ {
		for _, many := range []int{101, 102, 500, 1000} {
			for _, l := range [][][]string{manyLists(many), make([][]string, many)} {
				for _, size := range []int{31, 0, 4} {
					for _, a := range lists("a b", "", "A") {
						got, err := Moves(a, l, size, workers)
						wantBare(t, "moves", got, err, api.ErrBound)
					}
				}
			}
		}
		for _, many := range []int{501, 502, 2000} {
			for _, n := range []int{10, 0, -1, api.MaxJump + 1} {
				got, err := Buckets(manyKeys(many), n, workers)
				wantBare(t, "buckets", got, err, api.ErrBound)
			}
		}
	}
}

// P120, P121: each error of a list, At the list that has it: where it is within the list is not told.
func TestWrongLists(t *testing.T) {
	a := strings.Fields("a b c")
	for _, c := range []struct {
		text string
		want error
	}{
		{"", api.ErrNone},
		{"a b c d e f g h i j k l m", api.ErrBound},
		{"A", api.ErrName},
		{"a b c d 1", api.ErrName},
		{"x y z x", api.ErrExist},
		{"a abcdefghijklm", api.ErrName},
	} {
		for _, at := range []int{0, 1, 2, 50, 99} {
			l := manyLists(100)
			l[at] = strings.Fields(c.text)
			for workers := 1; workers <= api.Workers; workers++ {
				got, err := Moves(a, l, 31, workers)
				wantFault(t, strconv.Quote(c.text), got, err, at, c.want)
			}
		}
	}
}

// P120, P121: of several that have an error the first one is told, whichever is through first.
func TestFirstOfSeveral(t *testing.T) {
	a := strings.Fields("a b c")
	for _, first := range []int{0, 1, 7, 40, 98} {
		l := manyLists(100)
		for i := first + 1; i < len(l); i++ {
			l[i] = nil // found at once, so that it is likely to be through ahead of the first
		}
		l[first] = strings.Fields("a b c d e f g h i j k k")
		for workers := 1; workers <= api.Workers; workers++ {
			for range 3 {
				got, err := Moves(a, l, 503, workers)
				wantFault(t, "first", got, err, first, api.ErrExist)
			}
		}
	}
}

// P120: an error of a or of the size is one of the first list, ahead of that list's own; without lists nobody has it.
func TestErrorsOfAll(t *testing.T) {
	long := strings.Fields("a b c d e f g h i j k l m")
	for workers := 1; workers <= api.Workers; workers++ {
		for _, c := range []struct {
			a    []string
			size int
			want error
		}{
			{nil, 31, api.ErrNone}, {nil, 0, api.ErrNone},
			{long, 31, api.ErrBound},
			{[]string{"a", "B"}, 31, api.ErrName}, {[]string{"a", "B"}, 4, api.ErrName},
			{[]string{"a", "b", "a"}, 31, api.ErrExist},
			{[]string{"a"}, 1, api.ErrBound}, {[]string{"a"}, 504, api.ErrBound}, {[]string{"a"}, -31, api.ErrBound},
			{[]string{"a"}, math.MinInt, api.ErrBound}, {[]string{"a"}, math.MaxInt, api.ErrBound},
			{[]string{"a"}, 4, api.ErrShape}, {[]string{"a"}, 501, api.ErrShape},
		} {
			for _, l := range [][][]string{lists("a"), lists("a", "b", "c"), lists("9", "b"), lists("", "b"), manyLists(100)} {
				got, err := Moves(c.a, l, c.size, workers)
				wantFault(t, "of all", got, err, 0, c.want)
			}
			got, err := Moves(c.a, nil, c.size, workers)
			wantList(t, "no lists", workers, got, err, nil)
			got, err = Moves(c.a, [][]string{}, c.size, workers)
			wantList(t, "no lists", workers, got, err, nil)
		}
	}
}

// P120: an error of the count of buckets is one of the first key; without keys nobody has it.
func TestWrongCounts(t *testing.T) {
	for workers := 1; workers <= api.Workers; workers++ {
		for _, n := range []int{0, -1, api.MaxJump + 1, math.MinInt, math.MaxInt} {
			for _, keys := range [][]uint64{{5}, {0, 1, 2}, manyKeys(500)} {
				got, err := Buckets(keys, n, workers)
				wantFault(t, "count "+strconv.Itoa(n), got, err, 0, api.ErrBound)
			}
			for _, keys := range [][]uint64{nil, {}} {
				got, err := Buckets(keys, n, workers)
				wantList(t, "no keys", workers, got, err, nil)
			}
		}
	}
}

// P120: errors as numbers.
func TestCodes(t *testing.T) {
	a := []string{"a"}
	for i, c := range []struct {
		call     func() ([]int, error)
		code, at int
	}{
		{func() ([]int, error) { return Moves(a, lists("a", "b"), 31, 2) }, 0, -1},
		{func() ([]int, error) { return Moves(a, lists("a", "b c 9"), 31, 2) }, 4, 1},
		{func() ([]int, error) { return Moves(a, lists("a", "b", "c d c"), 31, 2) }, 6, 2},
		{func() ([]int, error) { return Moves(a, lists("a", "", "c"), 31, 2) }, 5, 1},
		{func() ([]int, error) { return Moves(a, lists("a", "b"), 9, 2) }, 3, 0},
		{func() ([]int, error) { return Moves(a, lists("a", "b"), 31, 17) }, 3, -1},
		{func() ([]int, error) { return Moves(a, manyLists(101), 31, 16) }, 2, -1},
		{func() ([]int, error) { return Buckets([]uint64{1, 2}, 0, 2) }, 2, 0},
		{func() ([]int, error) { return Buckets(manyKeys(501), 0, 2) }, 2, -1},
		{func() ([]int, error) { return Buckets(nil, 1, 0) }, 3, -1},
	} {
		_, err := c.call()
		if code, at := plain.Code(err); code != c.code || at != c.at {
			t.Errorf("%d: %d at %d, wanted %d at %d", i, code, at, c.code, c.at)
		}
	}
}

// P3, P4: what is handed over is only read, and no further than its length; answers are new memory.
func TestMemory(t *testing.T) {
	a := append(make([]string, 0, 9), "a", "b", "c", "A")[:3]
	l := append(make([][]string, 0, 200), manyLists(150)...)[:5]
	l[2] = append(l[2], "0")[:len(l[2])]
	keys := manyKeys(600)[:7]
	wasL, wasKeys := manyLists(150), manyKeys(600)

	moves, err := Moves(a, l, 31, 4)
	if err != nil {
		t.Fatal(err)
	}
	buckets, err := Buckets(keys, 10, 4)
	if err != nil {
		t.Fatal(err)
	}
	if got := strings.Join(a[:4], " "); got != "a b c A" {
		t.Errorf("a: %s", got)
	}
	for i, hosts := range l[:150] {
		if !slices.Equal(hosts, wasL[i]) {
			t.Errorf("list %d: %q, it was %q", i, hosts, wasL[i])
		}
	}
	if !slices.Equal(keys[:600], wasKeys) {
		t.Error("keys were written into")
	}

	wasMoves, wasBuckets := slices.Clone(moves), slices.Clone(buckets)
	clear(moves[:cap(moves)])
	clear(buckets[:cap(buckets)])
	again, err := Moves(a, l, 31, 4)
	wantList(t, "moves again", 4, again, err, wasMoves)
	again, err = Buckets(keys, 10, 4)
	wantList(t, "buckets again", 4, again, err, wasBuckets)
	clear(l)
	clear(keys)
	wantList(t, "buckets kept", 4, again, nil, wasBuckets)
}

// P2, P121: calls that go on at the same time keep clear of each other.
func TestCallsSideBySide(t *testing.T) {
	a := strings.Fields("h0 h1 h2")
	l, keys := manyLists(60), manyKeys(300)
	moves, err := Moves(a, l, 31, 1)
	if err != nil {
		t.Fatal(err)
	}
	buckets, err := Buckets(keys, 77, 1)
	if err != nil {
		t.Fatal(err)
	}
	var all sync.WaitGroup
	for i := range 48 {
		all.Go(func() {
			workers := 1 + i%api.Workers
			got, err := Moves(a, l, 31, workers)
			wantList(t, "moves", workers, got, err, moves)
			got, err = Buckets(keys, 77, workers)
			wantList(t, "buckets", workers, got, err, buckets)
		})
	}
	all.Wait()
}
