package jump

import (
	"math"
	"math/big"
	"slices"
	"sync"
	"testing"

	"levelhand/api"
)

// Keys whose first jump is at an edge; they were worked out backwards from what the key becomes.
const (
	leastStep    uint64 = 17068571456203592619 // it becomes (2^31 - 1) * 2^33: divided by 2^31, J is B + 1
	leastStepTop uint64 = 4626093953513826134  // it becomes 2^64 - 1: the low 33 bits make no difference
	mostStep     uint64 = 2313046976756913067  // it becomes 0: divided by 1, J is 2^31
	mostStepTop  uint64 = 8317313547776698198  // it becomes 2^33 - 1: the low 33 bits make no difference
	pastMost     uint64 = 13521230285649417131 // divided by 2048: J is MaxJump, which is no bucket
	belowMost    uint64 = 17212449879912289195 // divided by 2049: J is 1048064, below MaxJump
	wholeStep    uint64 = 15903227620049146564 // from 48 it is 49 * 2^31 over 49 * 2^20: no part is lost
)

// keys to ask for: small ones, great ones, those of the edges, and some by a rule, in no order; one of them twice.
func keys() []uint64 {
	l := []uint64{math.MaxUint64, 7, 0, 1 << 63, 1<<63 - 1, 7, leastStep, leastStepTop, mostStep, mostStepTop, pastMost, belowMost, wholeStep}
	for k := range uint64(150) {
		l = append(l, k*k*0x9E3779B97F4A7C15, ^k)
	}
	return l
}

// counts of buckets to ask for.
func counts() []int {
	l := []int{96, 97, 500, 501, 1000, 2048, 2049, 65536, 1048064, 1048065, api.MaxJump - 1, api.MaxJump}
	for n := 1; n <= 40; n++ {
		l = append(l, n)
	}
	return l
}

// byHand follows the words of the chapter with numbers that have no width, so that nothing is lost but what it says.
func byHand(key uint64, n int) []int {
	one, all := big.NewInt(1), new(big.Int).Lsh(big.NewInt(1), 64)
	k, times := new(big.Int).SetUint64(key), big.NewInt(2862933555777941757)
	var path []int
	for j := big.NewInt(0); j.Cmp(big.NewInt(int64(n))) < 0; {
		b := j.Int64()
		path = append(path, int(b))
		k.Mod(k.Add(k.Mul(k, times), one), all)
		below := new(big.Int).Div(k, big.NewInt(1<<33))
		j = new(big.Int).Mul(big.NewInt(b+1), big.NewInt(1<<31))
		j.Div(j, below.Add(below, one))
	}
	return path
}

func mustBucket(t *testing.T, key uint64, n int) int {
	t.Helper()
	b, err := Bucket(key, n)
	if err != nil {
		t.Fatalf("Bucket(%d, %d): %d, %v", key, n, b, err)
	}
	return b
}

func mustPath(t *testing.T, key uint64, n int) []int {
	t.Helper()
	path, err := Path(key, n)
	if err != nil || len(path) == 0 {
		t.Fatalf("Path(%d, %d): %d, %v", key, n, path, err)
	}
	return path
}

func mustShares(t *testing.T, keys []uint64, n int) []int {
	t.Helper()
	shares, err := Shares(keys, n)
	if err != nil || len(shares) != n {
		t.Fatalf("Shares(%d keys, %d): %d, %v", len(keys), n, shares, err)
	}
	return shares
}

// P50, P51: paths that were worked out apart from this program, to the last bucket that may be.
func TestKnownPaths(t *testing.T) {
	for _, c := range []struct {
		key  uint64
		want []int
	}{
		{0, []int{0}},
		{1, []int{0, 6, 17, 42, 43, 45, 55, 192, 261, 493, 549, 1160, 2323, 8421, 21134, 94075, 985611}},
		{2, []int{0, 3, 6, 15, 30, 31, 46, 62, 338, 1046, 3927, 80343, 152951}},
		{42, []int{0, 1, 2, 22, 33, 40, 43, 571, 5747, 150133, 153897}},
		{256, []int{0, 1, 2, 3, 16, 137, 520, 3906, 4173, 5881, 8799, 86422}},
		{math.MaxUint64, []int{0, 1, 2, 7, 9, 10, 92, 248, 295, 313, 1921, 5934, 13242, 18311, 119375, 208580, 589430}},
	} {
		if got := mustPath(t, c.key, api.MaxJump); !slices.Equal(got, c.want) {
			t.Errorf("Path(%d, %d) = %d, wanted %d", c.key, api.MaxJump, got, c.want)
		}
		if got, want := mustBucket(t, c.key, api.MaxJump), c.want[len(c.want)-1]; got != want {
			t.Errorf("Bucket(%d, %d) = %d, wanted %d", c.key, api.MaxJump, got, want)
		}
	}
}

// P50: buckets that were worked out apart from this program.
func TestKnownBuckets(t *testing.T) {
	for _, c := range []struct {
		key uint64
		n   int
		out int
	}{
		{0, 1, 0}, {0, 10, 0}, {0, 500, 0},
		{1, 6, 0}, {1, 7, 6}, {1, 17, 6}, {1, 18, 17}, {1, 500, 493},
		{42, 1, 0}, {42, 2, 1}, {42, 3, 2}, {42, 22, 2}, {42, 23, 22},
		{1 << 63, 10, 5}, {1 << 63, 500, 453}, {1 << 63, api.MaxJump, 802256},
		{math.MaxUint64, 10, 9}, {math.MaxUint64, 500, 313},
	} {
		if got := mustBucket(t, c.key, c.n); got != c.out {
			t.Errorf("Bucket(%d, %d) = %d, wanted %d", c.key, c.n, got, c.out)
		}
	}
}

// P50, P51: the least jump and the greatest one, J at the count and just below it, and a jump of which no part is lost.
func TestJumpsAtTheEdges(t *testing.T) {
	for _, c := range []struct {
		key  uint64
		n    int
		want []int
	}{
		{leastStep, 2, []int{0, 1}},
		{leastStepTop, 2, []int{0, 1}},
		{leastStep, 1, []int{0}},
		{mostStep, api.MaxJump, []int{0}},
		{mostStepTop, api.MaxJump, []int{0}},
		{pastMost, api.MaxJump, []int{0}},
		{belowMost, api.MaxJump, []int{0, 1048064}},
		{belowMost, 1048065, []int{0, 1048064}},
		{belowMost, 1048064, []int{0}},
		{wholeStep, 3000, []int{0, 48, 2048, 2562, 2636}},
		{wholeStep, 2049, []int{0, 48, 2048}},
		{wholeStep, 2048, []int{0, 48}},
	} {
		if got := mustPath(t, c.key, c.n); !slices.Equal(got, c.want) {
			t.Errorf("Path(%d, %d) = %d, wanted %d", c.key, c.n, got, c.want)
		}
		if got, want := mustBucket(t, c.key, c.n), c.want[len(c.want)-1]; got != want {
			t.Errorf("Bucket(%d, %d) = %d, wanted %d", c.key, c.n, got, want)
		}
	}
}

// P50, P51
func TestBucketAndPathGoByTheWords(t *testing.T) {
	for _, key := range keys() {
		for _, n := range counts() {
			want := byHand(key, n)
			if got := mustPath(t, key, n); !slices.Equal(got, want) {
				t.Fatalf("Path(%d, %d) = %d, wanted %d", key, n, got, want)
			}
			if got := mustBucket(t, key, n); got != want[len(want)-1] {
				t.Fatalf("Bucket(%d, %d) = %d, wanted %d", key, n, got, want[len(want)-1])
			}
		}
	}
}

// P50, P51, P3
func TestWrongCounts(t *testing.T) {
	for _, n := range []int{0, -1, api.MaxJump + 1, 2 * api.MaxJump, math.MinInt, math.MaxInt, math.MinInt32, math.MaxInt32} {
		for _, key := range keys() {
			if b, err := Bucket(key, n); b != 0 || err != api.ErrBound {
				t.Fatalf("Bucket(%d, %d): %d, %v, wanted %v, bare", key, n, b, err, api.ErrBound)
			}
			if path, err := Path(key, n); len(path) != 0 || err != api.ErrBound {
				t.Fatalf("Path(%d, %d): %d, %v, wanted %v, bare", key, n, path, err, api.ErrBound)
			}
		}
	}
	for _, n := range []int{1, api.MaxJump} {
		if b := mustBucket(t, 42, n); b < 0 || b >= n {
			t.Errorf("Bucket(42, %d) = %d", n, b)
		}
	}
}

// P51: shares that were worked out apart from this program.
func TestKnownShares(t *testing.T) {
	some := []uint64{0, 1, 2, 42, 256, 1 << 63, math.MaxUint64, 1}
	var squares []uint64
	for i := range uint64(api.MaxKeys) {
		squares = append(squares, i*i+3)
	}
	for _, c := range []struct {
		keys []uint64
		want []int
	}{
		{some, []int{8}},
		{some, []int{4, 4}},
		{some, []int{3, 0, 2, 3}},
		{some, []int{1, 0, 1, 1, 0, 1, 3, 0, 0, 1}},
		{squares, []int{500}},
		{squares, []int{94, 102, 108, 98, 98}},
		{squares, []int{60, 70, 70, 73, 67, 95, 65}},
	} {
		if got := mustShares(t, c.keys, len(c.want)); !slices.Equal(got, c.want) {
			t.Errorf("Shares(%d keys, %d) = %d, wanted %d", len(c.keys), len(c.want), got, c.want)
		}
	}
}

// P51: each key counts once for each time that it stands there, in the bucket that Bucket tells.
func TestSharesCountKeys(t *testing.T) {
	for n := 1; n <= api.MaxKeys; n++ {
		want := make([]int, n)
		for _, key := range keys() {
			want[mustBucket(t, key, n)]++
		}
		if got := mustShares(t, keys(), n); !slices.Equal(got, want) {
			t.Fatalf("%d buckets: %d, wanted %d", n, got, want)
		}
	}
}

// P51
func TestSharesOfNoKeys(t *testing.T) {
	for _, keys := range [][]uint64{nil, {}} {
		for _, n := range []int{1, 2, api.MaxKeys} {
			if got := mustShares(t, keys, n); !slices.Equal(got, make([]int, n)) {
				t.Errorf("%d buckets: %d", n, got)
			}
		}
	}
}

// P51, P3
func TestSharesBounds(t *testing.T) {
	most := make([]uint64, api.MaxKeys)
	if got := mustShares(t, most, api.MaxKeys); got[0] != api.MaxKeys { // key 0 stays in bucket 0
		t.Errorf("as much as may be: %d", got)
	}
	for _, c := range []struct{ many, n int }{
		{0, 0}, {0, -1}, {0, api.MaxKeys + 1}, {0, api.MaxJump}, {1, math.MaxInt}, {1, math.MinInt},
		{api.MaxKeys, 0}, {api.MaxKeys, api.MaxKeys + 1},
		{api.MaxKeys + 1, 1}, {api.MaxKeys + 1, api.MaxKeys}, {1 << 20, 1},
		{api.MaxKeys + 1, 0}, {api.MaxKeys + 1, api.MaxKeys + 1},
	} {
		if shares, err := Shares(make([]uint64, c.many), c.n); len(shares) != 0 || err != api.ErrBound {
			t.Errorf("Shares(%d keys, %d): %d shares, %v, wanted %v, bare", c.many, c.n, len(shares), err, api.ErrBound)
		}
	}
}

// P52
func TestOneBucketMore(t *testing.T) {
	for _, key := range keys() {
		was := mustBucket(t, key, 1)
		for n := 2; n <= 2500; n++ {
			now := mustBucket(t, key, n)
			if now != was && now != n-1 {
				t.Fatalf("key %d with %d buckets goes from %d to %d", key, n, was, now)
			}
			was = now
		}
	}
}

// P52: where there are very many, too: at each bucket of the longest path, and beside it.
func TestOneBucketMoreOfVeryMany(t *testing.T) {
	for _, key := range keys() {
		for _, b := range append(mustPath(t, key, api.MaxJump), api.MaxJump-1) {
			for n := max(b-1, 1); n <= min(b+2, api.MaxJump-1); n++ {
				was, now := mustBucket(t, key, n), mustBucket(t, key, n+1)
				if now != was && now != n {
					t.Fatalf("key %d with %d buckets goes from %d to %d", key, n+1, was, now)
				}
			}
		}
	}
}

// P52: a path with one bucket more is the same one, or goes one on; shares are lost to the new bucket alone.
func TestPathsAndSharesOnlyGoOn(t *testing.T) {
	for n := 1; n < api.MaxKeys; n++ {
		for _, key := range keys() {
			was, now := mustPath(t, key, n), mustPath(t, key, n+1)
			if !slices.Equal(now, was) && !slices.Equal(now, append(was, n)) {
				t.Fatalf("key %d with %d buckets: %d becomes %d", key, n+1, was, now)
			}
		}
		was, now := mustShares(t, keys(), n), mustShares(t, keys(), n+1)
		lost := 0
		for b := range was {
			if now[b] > was[b] {
				t.Fatalf("with %d buckets, %d has more: %d, it had %d", n+1, b, now[b], was[b])
			}
			lost += was[b] - now[b]
		}
		if lost != now[n] {
			t.Fatalf("with %d buckets the new one has %d, and %d are lost", n+1, now[n], lost)
		}
	}
}

// P2: nobody who asks beside makes a difference, nor does the order of keys.
func TestAskedSideBySide(t *testing.T) {
	l := keys()
	turned := slices.Clone(l)
	slices.Reverse(turned)
	want := mustShares(t, l, 9)
	var group sync.WaitGroup
	for i := range 50 {
		group.Go(func() {
			path, _ := Path(l[i], 900)
			b, _ := Bucket(l[i], 900)
			shares, _ := Shares(turned, 9)
			if !slices.Equal(path, byHand(l[i], 900)) || b != path[len(path)-1] || !slices.Equal(shares, want) {
				t.Errorf("key %d: %d, %d, %d", l[i], path, b, shares)
			}
		})
	}
	group.Wait()
}

// fill all the memory that an answer has, also behind its length.
func fill(l []int) {
	l = l[:cap(l)]
	for i := range l {
		l[i] = -7
	}
}

// P3, P4
func TestAnswersAreNewMemory(t *testing.T) {
	room := append(keys(), 1, 2, 3)
	kept := slices.Clone(room)
	some := room[:len(room)-3]
	path, shares := mustPath(t, 1, api.MaxJump), mustShares(t, some, 40)
	wantPath, wantShares := slices.Clone(path), slices.Clone(shares)
	fill(mustPath(t, 1, api.MaxJump))
	fill(mustShares(t, some, 40))
	if !slices.Equal(room, kept) {
		t.Errorf("what was handed over became %d", room)
	}
	clear(room)
	if !slices.Equal(path, wantPath) || !slices.Equal(shares, wantShares) {
		t.Errorf("memory is shared: %d, %d", path, shares)
	}
}

// P1, P50, P51, P52
func FuzzJumps(f *testing.F) {
	f.Add(uint64(1), 500, 3)
	f.Add(uint64(0), 0, 0)
	f.Add(leastStep, api.MaxJump, api.MaxKeys+1)
	f.Fuzz(func(t *testing.T, key uint64, n, many int) {
		l := make([]uint64, min(max(many, 0), 2*api.MaxKeys))
		for i := range l {
			l[i] = key + uint64(i)
		}
		b, fromBucket := Bucket(key, n)
		path, fromPath := Path(key, n)
		shares, fromShares := Shares(l, n)
		wrong, tooMuch := n < 1 || n > api.MaxJump, len(l) > api.MaxKeys || n < 1 || n > api.MaxKeys
		if (fromBucket != nil) != wrong || (fromPath != nil) != wrong || (fromShares != nil) != tooMuch {
			t.Fatalf("%d buckets, %d keys: %v, %v, %v", n, len(l), fromBucket, fromPath, fromShares)
		}
		if wrong {
			return
		}
		if want := byHand(key, n); !slices.Equal(path, want) || b != want[len(want)-1] {
			t.Errorf("%d, %d: %d, %d, wanted %d", key, n, b, path, want)
		}
		if more, err := Bucket(key, n+1); err == nil && more != b && more != n {
			t.Errorf("key %d with %d buckets goes from %d to %d", key, n+1, b, more)
		}
		sum := 0
		for _, share := range shares {
			sum += share
		}
		if !tooMuch && (len(shares) != n || sum != len(l)) {
			t.Errorf("%d keys, %d buckets: %d", len(l), n, shares)
		}
	})
}
