package flows

import (
	"cmp"
	"errors"
	"math"
	"math/rand"
	"slices"
	"strconv"
	"strings"
	"sync"
	"testing"

	"levelhand/api"
	"levelhand/mix"
)

func mustNew(t *testing.T, time int) *Flows {
	t.Helper()
	f, err := New(time)
	if f == nil || err != nil {
		t.Fatalf("New(%d): %v, %v", time, f, err)
	}
	return f
}

func put(t *testing.T, f *Flows, key uint64, host string, now int) {
	t.Helper()
	if err := f.Put(key, host, now); err != nil {
		t.Fatalf("Put(%d, %q, %d): %v", key, host, now, err)
	}
}

// get a host, or an empty text where there is none.
func get(t *testing.T, f *Flows, key uint64, now int) string {
	t.Helper()
	host, ok, err := f.Get(key, now)
	if err != nil || ok != (host != "") {
		t.Fatalf("Get(%d, %d): %q, %v, %v", key, now, host, ok, err)
	}
	return host
}

func expire(t *testing.T, f *Flows, now, want int) {
	t.Helper()
	if n, err := f.Expire(now); n != want || err != nil {
		t.Errorf("Expire(%d): %d, %v, wanted %d", now, n, err, want)
	}
}

func add(t *testing.T, f *Flows, l []api.Flow, now, want int) {
	t.Helper()
	if n, err := f.Add(l, now); n != want || err != nil {
		t.Errorf("Add(%v, %d): %d, %v, wanted %d", l, now, n, err, want)
	}
}

// written: a flow as KEY:HOST:UNTIL.
func written(l []api.Flow) string {
	var words []string
	for _, flow := range l {
		words = append(words, strconv.FormatUint(flow.Key, 10)+":"+flow.Host+":"+strconv.Itoa(flow.Until))
	}
	return strings.Join(words, " ")
}

func wantList(t *testing.T, f *Flows, want string) {
	t.Helper()
	if got := written(f.List()); got != want {
		t.Errorf("list: %s, wanted %s", got, want)
	}
}

func wantBare(t *testing.T, what string, err, want error) {
	t.Helper()
	if err != want {
		t.Errorf("%q: %#v, wanted %v, bare", what, err, want)
	}
}

// full of flows: keys from least on, host a, all put at tick 0.
func full(t *testing.T, time int, least uint64) *Flows {
	t.Helper()
	f := mustNew(t, time)
	for i := range uint64(api.MaxFlows) {
		put(t, f, least+i, "a", 0)
	}
	return f
}

func keysOf(f *Flows) []uint64 {
	var keys []uint64
	for _, flow := range f.List() {
		keys = append(keys, flow.Key)
	}
	return keys
}

// P80
func TestNewEdges(t *testing.T) {
	for _, time := range []int{0, -1, api.MaxTime + 1, math.MinInt, math.MaxInt} {
		f, err := New(time)
		wantBare(t, strconv.Itoa(time), err, api.ErrBound)
		if f != nil {
			t.Errorf("%d: %v, beside an error", time, f)
		}
	}
	for _, time := range []int{1, 2, api.MaxTime - 1, api.MaxTime} {
		f := mustNew(t, time)
		wantList(t, f, "")
		put(t, f, 1, "a", 0)
		wantList(t, f, "1:a:"+strconv.Itoa(time))
	}
}

// P80, P81: the document's own, and the same at other times and ticks.
func TestTimeOfAFlow(t *testing.T) {
	for _, time := range []int{1, 2, 20, api.MaxTime} {
		for _, start := range []int{0, 1, 77, api.MaxTick - api.MaxTime} {
			f := mustNew(t, time)
			put(t, f, 42, "web-1", start)
			for now := start; now < start+time; now++ {
				if get(t, f, 42, now) != "web-1" {
					t.Fatalf("time %d, put at %d: gone at %d", time, start, now)
				}
			}
			for _, now := range []int{start + time, start + time, api.MaxTick} {
				if get(t, f, 42, now) != "" {
					t.Errorf("time %d, put at %d: here at %d", time, start, now)
				}
			}
			wantList(t, f, "42:web-1:"+strconv.Itoa(start+time)) // to get it is not to expire it
		}
	}
}

// P80
func TestPutAgain(t *testing.T) {
	f := mustNew(t, 5)
	put(t, f, 7, "a", 0)
	put(t, f, 7, "b", 0) // at the same tick another host
	wantList(t, f, "7:b:5")
	put(t, f, 7, "b", 4) // from its last Put on
	wantList(t, f, "7:b:9")
	put(t, f, 7, "a", 20) // one that was gone
	wantList(t, f, "7:a:25")
	add(t, f, []api.Flow{{Key: 8, Host: "c", Until: 20 + api.MaxTime}}, 20, 1)
	put(t, f, 8, "c", 21) // also if that is sooner
	wantList(t, f, "7:a:25 8:c:26")
	put(t, f, 9, "d", api.MaxTick)
	wantList(t, f, "7:a:25 8:c:26 9:d:"+strconv.Itoa(api.MaxTick+5))
}

// P80
func TestOneGoesForAnother(t *testing.T) {
	f := full(t, 10, 100)
	put(t, f, 5, "b", 0) // all of one Until: the least key that was there, not the new one
	if keys := keysOf(f); len(keys) != api.MaxFlows || keys[0] != 5 || keys[1] != 101 {
		t.Errorf("%d", keys)
	}
	put(t, f, 6, "b", 3) // the new one of tick 0 has the least key now
	if keys := keysOf(f); len(keys) != api.MaxFlows || keys[0] != 6 || keys[1] != 101 {
		t.Errorf("%d", keys)
	}
	put(t, f, 101, "b", 4) // it stays longer now, so the next one goes
	put(t, f, 1000, "b", 4)
	if keys := keysOf(f); len(keys) != api.MaxFlows || keys[1] != 101 || keys[2] != 103 || keys[api.MaxFlows-1] != 1000 {
		t.Errorf("%d", keys)
	}
}

// P80: the least Until counts, ahead of the key; just one goes, also where many are through.
func TestFirstGone(t *testing.T) {
	f := mustNew(t, 10)
	for i := range uint64(api.MaxFlows) {
		put(t, f, 1000-i, "a", int(i))
	}
	for i := range uint64(50) {
		put(t, f, 5000+i, "b", 5000)
		if keys := keysOf(f); len(keys) != api.MaxFlows || slices.Contains(keys, 1000-i) || keys[api.MaxFlows-2-int(i)] != 1000-i-1 {
			t.Fatalf("%d: %d", i, keys)
		}
	}
	f = mustNew(t, 1)
	var long []api.Flow
	for i := range uint64(api.MaxFlows) {
		long = append(long, api.Flow{Key: i, Host: "a", Until: 500 - int(i%2)})
	}
	add(t, f, long, 0, api.MaxFlows)
	put(t, f, 900, "b", 0) // one of time 1 among long ones
	if keys := keysOf(f); slices.Contains(keys, 1) || !slices.Contains(keys, 0) {
		t.Errorf("%d", keys)
	}
	put(t, f, 901, "b", 0) // goes first, though its key is the greatest
	if keys := keysOf(f); slices.Contains(keys, 900) || !slices.Contains(keys, 901) || !slices.Contains(keys, 3) {
		t.Errorf("%d", keys)
	}
}

// P80: a key that has its flow drives none out: there are MaxFlows - 1 others.
func TestFullAndPutAgain(t *testing.T) {
	f := full(t, 10, 100)
	before := keysOf(f)
	for _, key := range []uint64{100, 299, 150, 100} {
		put(t, f, key, "b", 1)
		if !slices.Equal(keysOf(f), before) || get(t, f, key, 1) != "b" {
			t.Errorf("%d: %d", key, keysOf(f))
		}
	}
	put(t, f, 999, "c", 1)
	if keys := keysOf(f); slices.Contains(keys, 101) || !slices.Contains(keys, 100) {
		t.Errorf("%d", keys)
	}
}

// told: the calls with a now, by name; each answers its error, and tells if it answered anything else beside it.
func told(t *testing.T, f *Flows, host string) map[string]func(now int) error {
	return map[string]func(now int) error{
		"Put": func(now int) error { return f.Put(9, host, now) },
		"Get": func(now int) error {
			s, ok, err := f.Get(9, now)
			if err != nil && (s != "" || ok) {
				t.Errorf("%q, %v, beside %v", s, ok, err)
			}
			return err
		},
		"Expire": func(now int) error {
			n, err := f.Expire(now)
			if err != nil && n != 0 {
				t.Errorf("%d, beside %v", n, err)
			}
			return err
		},
		"Add": func(now int) error {
			n, err := f.Add([]api.Flow{{Key: 9, Host: host, Until: 70}}, now)
			if err != nil && n != 0 {
				t.Errorf("%d, beside %v", n, err)
			}
			return err
		},
		"Add of none": func(now int) error {
			n, err := f.Add(nil, now)
			if n != 0 {
				t.Errorf("%d of none", n)
			}
			return err
		},
	}
}

// P80, P81: the errors of now, ahead of that of a name, and of nothing else.
func TestErrorsOfNow(t *testing.T) {
	for _, host := range []string{"a", "A", ""} {
		f := mustNew(t, 20)
		put(t, f, 9, "b", 50)
		put(t, f, 3, "b", 50)
		for name, call := range told(t, f, host) {
			for _, now := range []int{-1, api.MaxTick + 1, math.MinInt, math.MaxInt} {
				wantBare(t, name, call(now), api.ErrBound)
			}
			for _, now := range []int{0, 1, 49} {
				wantBare(t, name, call(now), api.ErrOld)
			}
			wantList(t, f, "3:b:70 9:b:70")
		}
		if get(t, f, 9, 50) != "b" {
			t.Error("a call that told an error moved the tick")
		}
	}
}

// P80, P81: each call that tells no error moves the tick, whatever it found; none goes back.
func TestTickMoves(t *testing.T) {
	for _, first := range []string{"Put", "Get", "Expire", "Add", "Add of none"} {
		for _, now := range []int{0, 1, 69, 70, 1000, api.MaxTick} {
			for _, second := range []string{"Put", "Get", "Expire", "Add", "Add of none"} {
				f := mustNew(t, 20)
				calls := told(t, f, "a")
				wantBare(t, first, calls[first](now), nil)
				if now > 0 {
					wantBare(t, first+", "+second, calls[second](now-1), api.ErrOld)
				}
				wantBare(t, first+", "+second, calls[second](now), nil)
			}
		}
	}
}

// P80, P81, P3: a call that tells an error does not move the tick, nor do those without one.
func TestTickStays(t *testing.T) {
	for _, c := range []func(f *Flows){
		func(f *Flows) { f.Put(1, "A", 60) },
		func(f *Flows) { f.Put(1, "a", api.MaxTick+1) },
		func(f *Flows) { f.Get(1, api.MaxTick+1) },
		func(f *Flows) { f.Expire(api.MaxTick + 1) },
		func(f *Flows) { f.Add(nil, api.MaxTick+1) },
		func(f *Flows) { f.Add([]api.Flow{{Key: 1, Host: "a", Until: 80}, {Key: 2, Until: 80}}, 60) },
		func(f *Flows) { f.Put(1, "a", 10) },
		func(f *Flows) { f.Get(1, 10) },
		func(f *Flows) { f.Expire(49) },
		func(f *Flows) { f.Add([]api.Flow{{Key: 1, Host: "a", Until: 60}}, 49) },
		func(f *Flows) { f.Drop("x") },
		func(f *Flows) { f.List() },
	} {
		f := mustNew(t, 20)
		put(t, f, 9, "b", 50)
		c(f)
		_, _, err := f.Get(9, 49)
		wantBare(t, "below", err, api.ErrOld)
		put(t, f, 8, "b", 50)
		wantList(t, f, "8:b:70 9:b:70")
	}
}

// wrongNames: texts that are no names.
func wrongNames() []string {
	return []string{"", "A", "1", "-a", "a ", " a", "a_b", "thirteen-long", "ä", "\xff", "a\n"}
}

// P80
func TestPutWrongNames(t *testing.T) {
	f := mustNew(t, 20)
	put(t, f, 9, "b", 50)
	for _, host := range wrongNames() {
		wantBare(t, host, f.Put(9, host, 60), api.ErrName)
		wantBare(t, host, f.Put(1, host, 60), api.ErrName)
		wantBare(t, host, f.Put(1, host, 49), api.ErrOld)
		wantBare(t, host, f.Put(1, host, -1), api.ErrBound)
	}
	wantList(t, f, "9:b:70")
	f = full(t, 10, 1)
	wantBare(t, "full", f.Put(0, "A", 1), api.ErrName)
	if keys := keysOf(f); len(keys) != api.MaxFlows || keys[0] != 1 {
		t.Errorf("one went for none: %d", keys)
	}
	for _, host := range []string{"a", "z9-", "twelve-long1"} {
		put(t, f, 1, host, 5)
		if get(t, f, 1, 5) != host {
			t.Errorf("%q was not put", host)
		}
	}
}

// P81
func TestGetOfNone(t *testing.T) {
	f := mustNew(t, 5)
	for _, key := range []uint64{0, 1, math.MaxUint64} {
		if get(t, f, key, 0) != "" {
			t.Errorf("%d has a host", key)
		}
	}
	put(t, f, 0, "a", 0)
	put(t, f, math.MaxUint64, "b", 0)
	if get(t, f, 0, 0) != "a" || get(t, f, math.MaxUint64, 0) != "b" || get(t, f, 1, 0) != "" || get(t, f, math.MaxUint64-1, 0) != "" {
		t.Error(f.List())
	}
}

// P81
func TestExpire(t *testing.T) {
	f := mustNew(t, 5)
	expire(t, f, 0, 0)
	for i := range uint64(6) {
		put(t, f, 10-i, "a", int(i/2)) // until 5, 5, 6, 6, 7, 7
	}
	expire(t, f, 4, 0)
	expire(t, f, 5, 2)
	expire(t, f, 5, 0)
	wantList(t, f, "5:a:7 6:a:7 7:a:6 8:a:6")
	put(t, f, 8, "b", 6)
	expire(t, f, 6, 1)
	wantList(t, f, "5:a:7 6:a:7 8:b:11")
	expire(t, f, api.MaxTick, 3)
	wantList(t, f, "")
	expire(t, f, api.MaxTick, 0)
	put(t, f, 1, "a", api.MaxTick)
	expire(t, f, api.MaxTick, 0)
	wantList(t, f, "1:a:"+strconv.Itoa(api.MaxTick+5))
}

// P81
func TestDrop(t *testing.T) {
	f := mustNew(t, 5)
	for i := range uint64(9) {
		put(t, f, i, []string{"a", "b", "ab"}[i%3], int(i))
	}
	for _, host := range append(wrongNames(), "c", "aa") {
		if n := f.Drop(host); n != 0 {
			t.Errorf("%q: %d", host, n)
		}
	}
	if get(t, f, 0, 8) != "" {
		t.Error("key 0 is not through")
	}
	if n := f.Drop("a"); n != 3 { // also those that are through
		t.Errorf("%d", n)
	}
	wantList(t, f, "1:b:6 2:ab:7 4:b:9 5:ab:10 7:b:12 8:ab:13")
	if n := f.Drop("a"); n != 0 {
		t.Errorf("again: %d", n)
	}
	put(t, f, 0, "a", 8) // a host that was dropped may come again
	if f.Drop("ab") != 3 || f.Drop("b") != 3 || f.Drop("a") != 1 {
		t.Error(f.List())
	}
	wantList(t, f, "")
	if n := full(t, 1, 0).Drop("a"); n != api.MaxFlows {
		t.Errorf("all: %d", n)
	}
}

// P81: by key as a number without sign, however they came.
func TestListByKey(t *testing.T) {
	keys := []uint64{1 << 63, 5, math.MaxUint64, 0, 1<<63 - 1, 10, 9}
	r := rand.New(rand.NewSource(81))
	for range 50 {
		r.Shuffle(len(keys), func(i, j int) { keys[i], keys[j] = keys[j], keys[i] })
		f := mustNew(t, 5)
		for i, key := range keys {
			put(t, f, key, "a", i)
		}
		want := slices.Clone(keys)
		slices.Sort(want)
		if got := keysOf(f); !slices.Equal(got, want) {
			t.Errorf("%d, wanted %d", got, want)
		}
	}
}

// P81
func TestAddEdges(t *testing.T) {
	const now = 100
	for _, c := range []struct {
		until int
		taken bool
	}{
		{now, false}, {now + 1, true}, {now + api.MaxTime - 1, true}, {now + api.MaxTime, true}, {now + api.MaxTime + 1, false},
		{0, false}, {-1, false}, {math.MinInt, false}, {math.MaxInt, false}, {now - 1, false},
	} {
		for _, time := range []int{1, api.MaxTime} { // this one's own time is nothing to it
			f := mustNew(t, time)
			want, list := 0, ""
			if c.taken {
				want, list = 1, "7:a:"+strconv.Itoa(c.until)
			}
			add(t, f, []api.Flow{{Key: 7, Host: "a", Until: c.until}}, now, want)
			wantList(t, f, list)
		}
	}
	f := mustNew(t, 1)
	add(t, f, []api.Flow{{Key: 1, Host: "a", Until: api.MaxTick + api.MaxTime}, {Key: 2, Host: "a", Until: api.MaxTick + api.MaxTime + 1}}, api.MaxTick, 1)
	add(t, f, nil, api.MaxTick, 0)
	add(t, f, []api.Flow{}, api.MaxTick, 0)
	wantList(t, f, "1:a:"+strconv.Itoa(api.MaxTick+api.MaxTime))
}

// P81: a key that has a flow keeps it, also one that is through; in the list itself the first that is taken counts.
func TestAddToSome(t *testing.T) {
	f := mustNew(t, 5)
	put(t, f, 3, "a", 0)
	put(t, f, 1, "b", 10)
	add(t, f, []api.Flow{
		{Key: 3, Host: "x", Until: 20}, {Key: 1, Host: "x", Until: 20}, {Key: 4, Host: "c", Until: 10}, {Key: 4, Host: "d", Until: 11},
		{Key: 4, Host: "e", Until: 12}, {Key: 2, Host: "f", Until: 5000}, {Key: 2, Host: "b", Until: 13}, {Key: 0, Host: "g", Until: 14},
	}, 10, 3)
	wantList(t, f, "0:g:14 1:b:15 2:b:13 3:a:5 4:d:11")
	expire(t, f, 11, 2)
	add(t, f, []api.Flow{{Key: 3, Host: "x", Until: 20}}, 11, 1)
	wantList(t, f, "0:g:14 1:b:15 2:b:13 3:x:20")
	if get(t, f, 2, 12) != "b" || get(t, f, 2, 13) != "" {
		t.Error("what was added does not stay till its Until")
	}
}

// P81: Add drives none out, not even one that is through.
func TestAddToMany(t *testing.T) {
	var l []api.Flow
	for i := range uint64(300) {
		l = append(l, api.Flow{Key: 300 - i, Host: "b", Until: 60 + int(i)})
	}
	f := mustNew(t, 5)
	add(t, f, l, 50, api.MaxFlows)
	if keys := keysOf(f); len(keys) != api.MaxFlows || keys[0] != 101 || keys[api.MaxFlows-1] != 300 {
		t.Errorf("%d", keys)
	}
	add(t, f, l, 50, 0)
	f = full(t, 5, 1000)
	before := written(f.List())
	add(t, f, l, 50, 0)
	wantList(t, f, before)
	put(t, f, 999, "a", 50)
	expire(t, f, 50, api.MaxFlows-1)
	add(t, f, l, 50, api.MaxFlows-1)
	if keys := keysOf(f); len(keys) != api.MaxFlows || keys[0] != 102 || keys[api.MaxFlows-1] != 999 {
		t.Errorf("%d", keys)
	}
}

// P81, P3
func TestAddWrongNames(t *testing.T) {
	for _, host := range wrongNames() {
		for at := range 4 {
			f := mustNew(t, 5)
			put(t, f, 2, "a", 10)
			l := []api.Flow{{Key: 1, Host: "x", Until: 20}, {Key: 2, Host: "x", Until: 20}, {Key: 3, Host: "x", Until: 0}, {Key: 4, Host: "x", Until: 20}, {Key: 5, Host: "A", Until: 20}}
			l[at].Host = host // also of one that would not be added
			n, err := f.Add(l, 12)
			fault, ok := err.(*api.Fault)
			if n != 0 || !ok || fault.At != at || fault.Err != api.ErrName || !errors.Is(err, api.ErrName) {
				t.Errorf("%q at %d: %d, %#v", host, at, n, err)
			}
			wantList(t, f, "2:a:15")
			put(t, f, 2, "a", 11)
		}
	}
	f := full(t, 5, 0)
	_, err := f.Add([]api.Flow{{Key: 900, Host: "b", Until: 9}, {Key: 901, Host: "B", Until: 9}}, 1) // also where there is no room
	if fault, ok := err.(*api.Fault); !ok || fault.At != 1 {
		t.Errorf("full: %#v", err)
	}
}

// P3, P4
func TestNothingIsShared(t *testing.T) {
	all := []api.Flow{{Key: 2, Host: "a", Until: 9}, {Key: 1, Host: "b", Until: 9}, {Key: 3, Host: "A", Until: 9}, {Key: 4, Host: "c", Until: 9}}
	was := slices.Clone(all)
	f := mustNew(t, 5)
	add(t, f, all[:2], 0, 2)
	if !slices.Equal(all, was) {
		t.Errorf("what was handed over is %v", all)
	}
	clear(all)
	wantList(t, f, "1:b:9 2:a:9")
	one, two := f.List(), f.List()
	one[0], two[1] = api.Flow{Key: 77, Host: "x"}, api.Flow{Key: 78, Host: "y"}
	_ = append(one[:1], api.Flow{Key: 79})
	wantList(t, f, "1:b:9 2:a:9")
	put(t, f, 1, "d", 1)
	f.Drop("a")
	if two[0] != was[1] {
		t.Errorf("an answer changed: %v", two)
	}
}

// P2: one knows nothing of another, nor of who works beside.
func TestFlowsStandAlone(t *testing.T) {
	one, two := mustNew(t, 5), mustNew(t, 9)
	put(t, one, 1, "a", 100)
	put(t, two, 1, "b", 3)
	wantList(t, one, "1:a:105")
	wantList(t, two, "1:b:12")
	lists := make([]string, 8)
	var group sync.WaitGroup
	for i := range lists {
		group.Go(func() {
			f, err := New(50)
			if err != nil {
				t.Error(err)
				return
			}
			for k := range 500 {
				f.Put(mix.Turn(uint64(k)), "a", k/4)
			}
			lists[i] = written(f.List())
		})
	}
	group.Wait()
	for _, l := range lists {
		if l != lists[0] {
			t.Errorf("%s, and %s", l, lists[0])
		}
	}
}

// P1: what New gives beside an error has no flows, and takes none.
func TestFlowsThatAreNone(t *testing.T) {
	f, err := New(0)
	if err == nil {
		t.Fatal("no error")
	}
	for name, call := range told(t, f, "a") {
		wantBare(t, name, call(1), api.ErrNone)
	}
	if len(f.List()) != 0 || f.Drop("a") != 0 {
		t.Error("it has flows")
	}
}

// byHand: all flows in a row as they came, gone through from the front each time.
type byHand struct {
	time  int
	nows  []int // of the calls that told no error
	flows []api.Flow
}

func (b *byHand) wrongNow(now int) error {
	if now < 0 || now > api.MaxTick {
		return api.ErrBound
	}
	for _, ahead := range b.nows {
		if now < ahead {
			return api.ErrOld
		}
	}
	return nil
}

func (b *byHand) find(key uint64) int {
	return slices.IndexFunc(b.flows, func(flow api.Flow) bool { return flow.Key == key })
}

func (b *byHand) without(gone func(api.Flow) bool) int {
	var left []api.Flow
	for _, flow := range b.flows {
		if !gone(flow) {
			left = append(left, flow)
		}
	}
	many := len(b.flows) - len(left)
	b.flows = left
	return many
}

func (b *byHand) put(key uint64, host string, now int) error {
	if err := b.wrongNow(now); err != nil {
		return err
	}
	if mix.Check([]string{host}) != nil {
		return api.ErrName
	}
	b.nows = append(b.nows, now)
	b.without(func(flow api.Flow) bool { return flow.Key == key })
	if len(b.flows) == api.MaxFlows {
		slices.SortFunc(b.flows, func(x, y api.Flow) int {
			return cmp.Or(cmp.Compare(x.Until, y.Until), cmp.Compare(x.Key, y.Key))
		})
		b.flows = b.flows[1:]
	}
	b.flows = append(b.flows, api.Flow{Key: key, Host: host, Until: now + b.time})
	return nil
}

func (b *byHand) get(key uint64, now int) (string, bool, error) {
	if err := b.wrongNow(now); err != nil {
		return "", false, err
	}
	b.nows = append(b.nows, now)
	if i := b.find(key); i >= 0 && b.flows[i].Until > now {
		return b.flows[i].Host, true, nil
	}
	return "", false, nil
}

func (b *byHand) expire(now int) (int, error) {
	if err := b.wrongNow(now); err != nil {
		return 0, err
	}
	b.nows = append(b.nows, now)
	return b.without(func(flow api.Flow) bool { return flow.Until <= now }), nil
}

// add: how many, and the place of the first name that is none, or -1.
func (b *byHand) add(l []api.Flow, now int) (int, int, error) {
	if err := b.wrongNow(now); err != nil {
		return 0, -1, err
	}
	for i, flow := range l {
		if mix.Check([]string{flow.Host}) != nil {
			return 0, i, api.ErrName
		}
	}
	b.nows = append(b.nows, now)
	before := len(b.flows)
	for _, flow := range l {
		if b.find(flow.Key) < 0 && now < flow.Until && flow.Until-now <= api.MaxTime && len(b.flows) < api.MaxFlows {
			b.flows = append(b.flows, flow)
		}
	}
	return len(b.flows) - before, -1, nil
}

func (b *byHand) list() []api.Flow {
	l := slices.Clone(b.flows)
	slices.SortFunc(l, func(x, y api.Flow) int { return cmp.Compare(x.Key, y.Key) })
	return l
}

// pair of flows and the same by hand.
type pair struct {
	f   *Flows
	b   *byHand
	now int
}

func hostOf(c byte) string {
	if c == 255 {
		return "A"
	}
	return string('a' + rune(c%5))
}

// some flows round a key and a tick, a few of them wrong.
func some(key uint64, now int, c byte) []api.Flow {
	var l []api.Flow
	for i := range int(c % 40) {
		l = append(l, api.Flow{Key: key + uint64(i*i%31), Host: hostOf(c + byte(i)), Until: now + i*int(c) - 20})
	}
	return l
}

// step of four bytes: what is done, two of the key (the second of them may spoil the tick), and one of host and tick.
func (p *pair) step(t *testing.T, s []byte) {
	t.Helper()
	key := uint64(s[1]) | uint64(s[2]%2)<<8
	now := p.now + int(s[3]%4)
	if s[2] >= 250 {
		now = []int{-1, p.now - 1, api.MaxTick + 1, math.MinInt, math.MaxInt, p.now - 300}[s[2]-250]
	}
	var got, want error
	var n, m int
	switch s[0] % 16 {
	case 0:
		n, m = p.f.Drop(hostOf(s[3])), p.b.without(func(flow api.Flow) bool { return flow.Host == hostOf(s[3]) })
	case 1:
		n, got = p.f.Expire(now)
		m, want = p.b.expire(now)
	case 2, 3:
		n, got = p.f.Add(some(key, now, s[3]), now)
		at := 0
		m, at, want = p.b.add(some(key, now, s[3]), now)
		if fault, ok := got.(*api.Fault); ok != (at >= 0) || ok && fault.At != at {
			t.Fatalf("Add at %d: %#v, wanted the place %d", now, got, at)
		} else if ok {
			got = fault.Err
		}
	case 4, 5, 6:
		host, ok, err := p.f.Get(key, now)
		hand, is, e := p.b.get(key, now)
		if host != hand || ok != is {
			t.Fatalf("Get(%d, %d): %q, %v, wanted %q, %v", key, now, host, ok, hand, is)
		}
		got, want = err, e
	default:
		got, want = p.f.Put(key, hostOf(s[3]), now), p.b.put(key, hostOf(s[3]), now)
	}
	if n != m || got != want {
		t.Fatalf("%d at %d: %d, %v, wanted %d, %v", s, now, n, got, m, want)
	}
	if want == nil && s[0]%16 != 0 {
		p.now = now
	}
}

// live through steps of four bytes, and hold the flows to the same by hand behind each.
func live(t *testing.T, time int, steps []byte) (most int) {
	t.Helper()
	p := &pair{f: mustNew(t, time), b: &byHand{time: time}}
	for ; len(steps) >= 4; steps = steps[4:] {
		p.step(t, steps[:4])
		l := p.f.List()
		if !slices.Equal(l, p.b.list()) {
			t.Fatalf("time %d, %d at %d: %s, wanted %s", time, steps[:4], p.now, written(l), written(p.b.list()))
		}
		wantRoom(t, l)
		most = max(most, len(l))
	}
	return most
}

// wantRoom: at most MaxFlows, each key once.
func wantRoom(t *testing.T, l []api.Flow) {
	t.Helper()
	keys := map[uint64]int{}
	for _, flow := range l {
		keys[flow.Key]++
	}
	if len(l) > api.MaxFlows || len(keys) != len(l) {
		t.Fatalf("%d flows of %d keys", len(l), len(keys))
	}
}

// P80, P81, P82
func TestLivesByHand(t *testing.T) {
	r := rand.New(rand.NewSource(80))
	reached := 0
	for _, time := range []int{1, 2, 20, 300, api.MaxTime} {
		for round := range 8 {
			steps := make([]byte, 4*900)
			r.Read(steps)
			for i := 0; i < len(steps); i += 4 {
				if round%2 == 0 && steps[i]%16 < 2 { // every other life rarely drops any, so that it fills
					steps[i] += 8
				}
			}
			reached = max(reached, live(t, time, steps))
		}
	}
	if reached != api.MaxFlows {
		t.Errorf("no life was ever full: %d", reached)
	}
}

// P82: however they come, by Put or by Add.
func TestNeverTooMany(t *testing.T) {
	r := rand.New(rand.NewSource(82))
	for _, keys := range []uint64{1, 150, api.MaxFlows, api.MaxFlows + 1, 1000} {
		f := mustNew(t, 100)
		for i := range 1500 {
			if i%5 == 0 {
				var l []api.Flow
				for range r.Intn(300) {
					l = append(l, api.Flow{Key: r.Uint64() % keys, Host: "b", Until: i + r.Intn(50)})
				}
				if _, err := f.Add(l, i); err != nil {
					t.Fatal(err)
				}
			} else {
				put(t, f, r.Uint64()%keys, "a", i)
			}
			wantRoom(t, f.List())
		}
		if many := len(f.List()); many != int(min(keys, api.MaxFlows)) {
			t.Errorf("of %d keys: %d", keys, many)
		}
	}
}

// P1, P80, P81, P82
func FuzzFlows(f *testing.F) {
	f.Add(5, []byte("\x07\x03\x00\x01\x04\x03\x00\x01\x02\x05\x00\x21\x01\x00\x00\x03"))
	f.Add(1, []byte("\x09\x01\x01\xff\x00\x00\x00\x00\x05\x01\xfa\x01"))
	f.Add(0, []byte(nil))
	f.Add(1001, []byte("\x00"))
	f.Fuzz(func(t *testing.T, time int, steps []byte) {
		flows, err := New(time)
		good := time >= 1 && time <= api.MaxTime
		if (err == nil) != good || (flows != nil) != good {
			t.Fatalf("%d: %v, %v", time, flows, err)
		}
		if good {
			live(t, time, steps[:min(len(steps), 4*600)])
		}
	})
}
