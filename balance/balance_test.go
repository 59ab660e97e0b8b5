package balance

import (
	"errors"
	"fmt"
	"hash/crc32"
	"math"
	"slices"
	"strconv"
	"strings"
	"sync"
	"testing"

	"levelhand/api"
	"levelhand/carry"
	"levelhand/mix"
	"levelhand/table"
)

const four = "d a b c"

func mustNew(t *testing.T, words string, size, time, fall, rise int) *Balance {
	t.Helper()
	b, err := New(strings.Fields(words), size, time, fall, rise)
	if b == nil || err != nil {
		t.Fatalf("New(%q, %d, %d, %d, %d): %v, %v", words, size, time, fall, rise, b, err)
	}
	return b
}

// plainOne: four hosts, 31 slots, time 20, one look to fall and one to rise.
func plainOne(t *testing.T) *Balance {
	t.Helper()
	return mustNew(t, four, 31, 20, 1, 1)
}

// pick a key, and tell its host and whether it was kept.
func pick(t *testing.T, b *Balance, key uint64, now int) (string, bool) {
	t.Helper()
	host, kept, err := b.Pick(key, now)
	if host == "" || err != nil {
		t.Fatalf("Pick(%d, %d): %q, %v, %v", key, now, host, kept, err)
	}
	return host, kept
}

// wantNew: a key that is sent by the table of these hosts.
func wantNew(t *testing.T, b *Balance, key uint64, now int, open string) string {
	t.Helper()
	host, kept := pick(t, b, key, now)
	if want := slotHost(t, strings.Fields(open), b.size, key); kept || host != want {
		t.Errorf("Pick(%d, %d): %q, %v, wanted %q, new", key, now, host, kept, want)
	}
	return host
}

func wantKept(t *testing.T, b *Balance, key uint64, now int, want string) {
	t.Helper()
	if host, kept := pick(t, b, key, now); !kept || host != want {
		t.Errorf("Pick(%d, %d): %q, %v, wanted %q, kept", key, now, host, kept, want)
	}
}

func wantNoPick(t *testing.T, b *Balance, key uint64, now int, want error) {
	t.Helper()
	host, kept, err := b.Pick(key, now)
	if host != "" || kept || err != want {
		t.Errorf("Pick(%d, %d): %q, %v, %#v, wanted %v, bare, and nothing else", key, now, host, kept, err, want)
	}
}

// slotHost: the host of a key by the table of these hosts.
func slotHost(t *testing.T, hosts []string, size int, key uint64) string {
	t.Helper()
	slots, err := table.Make(hosts, size)
	if err != nil {
		t.Fatal(err)
	}
	return hosts[slots[mix.Turn(key)%uint64(size)]]
}

// keyOf: the least key, from least on, that the table of these hosts sends to a host.
func keyOf(t *testing.T, words string, size int, host string, least uint64) uint64 {
	t.Helper()
	for key := least; key < least+1000; key++ {
		if slotHost(t, strings.Fields(words), size, key) == host {
			return key
		}
	}
	t.Fatalf("no key of %q goes to %q", words, host)
	return 0
}

func look(t *testing.T, b *Balance, host string, well, turns bool) {
	t.Helper()
	if turned, err := b.Look(host, well); turned != turns || err != nil {
		t.Errorf("Look(%q, %v): %v, %v, wanted %v", host, well, turned, err, turns)
	}
}

func drain(t *testing.T, b *Balance, is bool, words string) {
	t.Helper()
	for _, host := range strings.Fields(words) {
		if err := b.Drain(host, is); err != nil {
			t.Errorf("Drain(%q, %v): %v", host, is, err)
		}
	}
}

// written: a flow as KEY:HOST:UNTIL.
func written(l []api.Flow) string {
	var words []string
	for _, flow := range l {
		words = append(words, fmt.Sprintf("%d:%s:%d", flow.Key, flow.Host, flow.Until))
	}
	return strings.Join(words, " ")
}

func wantFlows(t *testing.T, b *Balance, want string) {
	t.Helper()
	if got := written(b.Flows()); got != want {
		t.Errorf("flows: %s, wanted %s", got, want)
	}
}

func wantUp(t *testing.T, b *Balance, words string) {
	t.Helper()
	if got := b.Up(); !slices.Equal(got, strings.Fields(words)) {
		t.Errorf("up: %q, wanted %q", got, words)
	}
}

func wantEpoch(t *testing.T, b *Balance, want int) {
	t.Helper()
	if got := b.Epoch(); got != want {
		t.Errorf("epoch: %d, wanted %d", got, want)
	}
}

// text of flows that are written as KEY:HOST:UNTIL.
func text(t *testing.T, epoch int, words string) string {
	t.Helper()
	var l []api.Flow
	for _, word := range strings.Fields(words) {
		parts := strings.Split(word, ":")
		key, _ := strconv.ParseUint(parts[0], 10, 64)
		until, _ := strconv.Atoi(parts[2])
		l = append(l, api.Flow{Key: key, Host: parts[1], Until: until})
	}
	s, err := carry.Text(epoch, l)
	if err != nil {
		t.Fatal(err)
	}
	return s
}

func bring(t *testing.T, b *Balance, s string, now, want int) {
	t.Helper()
	if n, err := b.Import(s, now); n != want || err != nil {
		t.Errorf("Import(%q, %d): %d, %v, wanted %d", s, now, n, err, want)
	}
}

// wantNoBring: at is the place of an *api.Fault, -1 asks for the error bare.
func wantNoBring(t *testing.T, b *Balance, s string, now int, want error, at int) {
	t.Helper()
	n, err := b.Import(s, now)
	if n != 0 {
		t.Errorf("Import(%q, %d): %d, beside %v", s, now, n, err)
	}
	wantErr(t, fmt.Sprintf("Import(%q, %d)", s, now), err, want, at)
}

func wantErr(t *testing.T, what string, err, want error, at int) {
	t.Helper()
	if at < 0 {
		if err != want {
			t.Errorf("%s: %#v, wanted %v, bare", what, err, want)
		}
		return
	}
	var f *api.Fault
	if !errors.As(err, &f) || f.Err != want || f.At != at {
		t.Errorf("%s: %#v, wanted %v at %d", what, err, want, at)
	}
}

// seal lines with their sum, by the library's own.
func seal(body string) string {
	return body + fmt.Sprintf("sum %08x\n", crc32.ChecksumIEEE([]byte(body)))
}

// P100: hosts that were worked out elsewhere.
func TestPicksWrittenOut(t *testing.T) {
	keys := []uint64{0, 1, 2, 3, 42, 1000, 1 << 63, math.MaxUint64}
	for _, c := range []struct {
		hosts string
		size  int
		want  string
	}{
		{"d a b c", 31, "c b c a a b b a"},
		{"d b c", 31, "c b c d d b b b"},
		{"web-2 web-1 web-3", 7, "web-2 web-2 web-3 web-2 web-1 web-2 web-3 web-2"},
		{"a", 2, "a a a a a a a a"},
		{"b a", 2, "a a b a a b a b"},
		{"l k j i h g f e d c b a", 503, "g e e j j l b c"},
	} {
		b := mustNew(t, c.hosts, c.size, 1, 1, 1)
		for i, want := range strings.Fields(c.want) {
			if host, kept := pick(t, b, keys[i], 0); host != want || kept {
				t.Errorf("%q, %d: Pick(%d): %q, %v, wanted %q", c.hosts, c.size, keys[i], host, kept, want)
			}
			wantKept(t, b, keys[i], 0, want)
		}
	}
}

// P100: the order of the hosts makes no difference to where a key goes, only to how they stand.
func TestOrderOfHosts(t *testing.T) {
	one, two := mustNew(t, "d a b c", 31, 20, 1, 1), mustNew(t, "a b c d", 31, 20, 1, 1)
	for key := range uint64(100) {
		a, _ := pick(t, one, key, 0)
		b, _ := pick(t, two, key, 0)
		if a != b {
			t.Errorf("%d: %q and %q", key, a, b)
		}
	}
	wantUp(t, one, "d a b c")
	wantUp(t, two, "a b c d")
}

// P100: what a new balance has, at each edge of its numbers.
func TestNewEdges(t *testing.T) {
	for _, words := range []string{"a", "b a", "l k j i h g f e d c b a", "abcdefghijkl z-9"} {
		for _, size := range []int{2, 3, 31, 499, 503} {
			for _, time := range []int{1, 20, api.MaxTime} {
				for _, edge := range []int{1, api.MaxEdge} {
					b := mustNew(t, words, size, time, edge, api.MaxEdge+1-edge)
					wantUp(t, b, words)
					wantFlows(t, b, "")
					wantEpoch(t, b, 0)
					host := wantNew(t, b, 5, 3, words)
					wantFlows(t, b, fmt.Sprintf("5:%s:%d", host, 3+time))
				}
			}
		}
	}
}

// P100, P3: the errors of New, each with all that come behind it wrong as well.
func TestNewWrongInputs(t *testing.T) {
	wantNone := func(hosts []string, size, time, fall, rise int, want error, at int) {
		t.Helper()
		b, err := New(hosts, size, time, fall, rise)
		what := fmt.Sprintf("New(%q, %d, %d, %d, %d)", hosts, size, time, fall, rise)
		if b != nil {
			t.Errorf("%s: %v, beside %v", what, b, err)
		}
		wantErr(t, what, err, want, at)
	}
	good, thirteen := strings.Fields(four), strings.Fields("a b c d e f g h i j k l m")
	for _, none := range [][]string{nil, {}, good[:0]} {
		wantNone(none, 31, 20, 2, 2, api.ErrNone, -1)
		wantNone(none, 4, 0, 0, 0, api.ErrNone, -1)
	}
	for _, size := range []int{31, 4} {
		for _, edge := range []int{2, 0} {
			wantNone(thirteen, size, 0, edge, edge, api.ErrBound, -1)
			wantNone([]string{"a", "b", "B"}, size, 0, edge, edge, api.ErrName, 2)
			wantNone([]string{""}, size, 0, edge, edge, api.ErrName, 0)
			wantNone([]string{"a", "b", "a", "B"}, size, 0, edge, edge, api.ErrExist, 2)
		}
	}
	for _, edge := range []int{0, -1, api.MaxEdge + 1, math.MinInt, math.MaxInt} {
		wantNone(good, 31, 20, edge, 2, api.ErrBound, -1)
		wantNone(good, 31, 20, 2, edge, api.ErrBound, -1)
		wantNone(good, 4, 0, edge, 2, api.ErrBound, -1) // ahead of the size, which is no prime
		wantNone(good, 4, 0, 2, edge, api.ErrBound, -1)
	}
	for _, time := range []int{0, -1, api.MaxTime + 1, math.MinInt, math.MaxInt} {
		for _, size := range []int{1, 0, -1, -31, api.MaxSlots + 1, 509, math.MinInt, math.MaxInt} {
			wantNone(good, size, 20, 2, 2, api.ErrBound, -1)
			wantNone(good, size, time, 2, 2, api.ErrBound, -1)
		}
		for _, size := range []int{4, 9, 33, 502} {
			wantNone(good, size, 20, 2, 2, api.ErrShape, -1)
			wantNone(good, size, time, 2, 2, api.ErrShape, -1) // ahead of the time
		}
		wantNone(good, 31, time, 2, 2, api.ErrBound, -1)
	}
}

// P100, P103: a flow is as long as its time from its last Pick on, not a tick longer.
func TestTimeOfAPick(t *testing.T) {
	for _, time := range []int{1, 2, 20, api.MaxTime} {
		for _, start := range []int{0, 77, api.MaxTick - 3*api.MaxTime} {
			b := mustNew(t, four, 31, time, 2, 2)
			host := wantNew(t, b, 7, start, four)
			now := start
			for range 2 { // each Pick begins its time anew
				now += time - 1
				wantKept(t, b, 7, now, host)
				wantFlows(t, b, fmt.Sprintf("7:%s:%d", host, now+time))
			}
			wantNew(t, b, 7, now+time, four)
			wantFlows(t, b, fmt.Sprintf("7:%s:%d", host, now+2*time))
		}
	}
	b := plainOne(t)
	host := wantNew(t, b, 7, api.MaxTick, four)
	wantKept(t, b, 7, api.MaxTick, host)
	wantFlows(t, b, fmt.Sprintf("7:%s:%d", host, api.MaxTick+20))
}

// P100: flows that are through stay in the list, till their key is picked again or their room is asked for.
func TestThroughIsNotGone(t *testing.T) {
	b := mustNew(t, "a", 31, 5, 1, 1)
	wantNew(t, b, 1, 0, "a")
	wantNew(t, b, 2, 9, "a")
	wantFlows(t, b, "1:a:5 2:a:14")
	wantNew(t, b, 1, 14, "a")
	wantFlows(t, b, "1:a:19 2:a:14")
}

// P100: where there is no room, the flow that is gone first goes; one that is kept drives none out.
func TestFullOfFlows(t *testing.T) {
	b := mustNew(t, "a", 31, 20, 1, 1)
	for key := range uint64(api.MaxFlows) {
		wantNew(t, b, 1000-key, int(key/50), "a")
	}
	wantKept(t, b, 1000, 4, "a")
	if n := len(b.Flows()); n != api.MaxFlows {
		t.Errorf("%d flows", n)
	}
	wantNew(t, b, 5, 4, "a") // of the tick 0 there are 951 to 999: the least one goes
	l := b.Flows()
	if len(l) != api.MaxFlows || l[0].Key != 5 || slices.ContainsFunc(l, func(flow api.Flow) bool { return flow.Key == 951 }) {
		t.Errorf("%s", written(l))
	}
	wantNew(t, b, 951, 4, "a")
	wantNew(t, b, 952, 4, "a")
	wantKept(t, b, 1000, 4, "a")
}

// P100: the errors of now come first, and change nothing.
func TestPickWrongTicks(t *testing.T) {
	b := plainOne(t)
	host := wantNew(t, b, 9, 50, four)
	whole := "9:" + host + ":70"
	for _, open := range []bool{true, false} {
		for _, key := range []uint64{9, 1} {
			for _, now := range []int{-1, api.MaxTick + 1, math.MinInt, math.MaxInt} {
				wantNoPick(t, b, key, now, api.ErrBound)
			}
			for _, now := range []int{0, 49} {
				wantNoPick(t, b, key, now, api.ErrOld)
			}
		}
		wantFlows(t, b, whole)
		if open {
			drain(t, b, true, four) // then none is open, which is told behind these
		}
	}
	wantKept(t, b, 9, 50, host)
	drain(t, b, false, four)
	wantNew(t, b, 1, 50, four)
}

// P100, P101: new flows come to none that is drained; those that there are stay.
func TestDrained(t *testing.T) {
	b := plainOne(t)
	had := map[uint64]string{}
	for key := range uint64(40) {
		had[key] = wantNew(t, b, key, 0, four)
	}
	drain(t, b, true, "a")
	for key := range uint64(40) {
		wantKept(t, b, key, 1, had[key])
		wantNew(t, b, 100+key, 1, "d b c")
	}
	drain(t, b, true, "a b") // once more is not less
	wantUp(t, b, four)
	for key := range uint64(40) {
		wantKept(t, b, key, 2, had[key])
		wantNew(t, b, 200+key, 2, "d c")
	}
	drain(t, b, false, "a c") // one that was not drained is not, either
	for key := range uint64(40) {
		wantNew(t, b, 300+key, 3, "d a c")
	}
	for key := range uint64(40) {
		wantNew(t, b, key, 30, "d a c") // also a key whose time is through
	}
}

// P100, P101: drained and down are two things.
func TestDrainedAndDown(t *testing.T) {
	b := plainOne(t)
	key := keyOf(t, four, 31, "a", 0)
	drain(t, b, true, "a")
	look(t, b, "a", false, true)
	wantUp(t, b, "d b c")
	look(t, b, "a", true, true)
	wantUp(t, b, four)
	wantNew(t, b, key, 0, "d b c") // up again, and still drained
	look(t, b, "c", false, true)
	drain(t, b, false, "a")
	drain(t, b, true, "c") // one that is down is a host too
	other := keyOf(t, four, 31, "c", 500)
	wantNew(t, b, other, 0, "d a b")
	look(t, b, "c", true, true)
	wantNew(t, b, other+5000, 0, "d a b")
	drain(t, b, false, "c")
	wantNew(t, b, keyOf(t, four, 31, "c", 6000), 0, four)
}

// P100: none is open: an error, and yet the now was told; what there is stays.
func TestNoneOpen(t *testing.T) {
	b := plainOne(t)
	host := wantNew(t, b, 7, 0, four)
	wantNew(t, b, 8, 0, four)
	drain(t, b, true, four)
	wantKept(t, b, 7, 5, host)
	was := written(b.Flows())
	wantNoPick(t, b, 9, 21, api.ErrNone)
	wantNoPick(t, b, 8, 21, api.ErrNone) // its time is through, and it is still in the list
	wantFlows(t, b, was)
	wantNoPick(t, b, 7, 20, api.ErrOld)
	wantNoBring(t, b, text(t, 0, ""), 20, api.ErrOld, -1)
	wantKept(t, b, 7, 21, host)
	for _, host := range strings.Fields(four) {
		look(t, b, host, false, true)
	}
	drain(t, b, false, four)
	wantUp(t, b, "")
	wantFlows(t, b, "")
	wantNoPick(t, b, 7, 30, api.ErrNone)
	wantNoPick(t, b, 7, 29, api.ErrOld)
	look(t, b, "b", true, true)
	wantNew(t, b, 7, 30, "b")
}

// P101: the looks that it takes; flows go with a host that turns down, and with nothing else.
func TestLooks(t *testing.T) {
	b := mustNew(t, four, 31, 20, 2, 3)
	for key := range uint64(60) {
		wantNew(t, b, key, 0, four)
	}
	all := b.Flows()
	for _, well := range []bool{false, true, true, false, true} { // single looks make no difference
		look(t, b, "c", well, false)
		wantFlows(t, b, written(all))
	}
	look(t, b, "c", false, false)
	look(t, b, "a", false, false)
	look(t, b, "c", false, true)
	wantUp(t, b, "d a b")
	left := slices.DeleteFunc(slices.Clone(all), func(flow api.Flow) bool { return flow.Host == "c" })
	if len(left) == len(all) || len(left) == 0 {
		t.Fatal(written(all))
	}
	wantFlows(t, b, written(left))
	look(t, b, "c", false, false) // down already
	for i, turns := range []bool{false, false, true} {
		wantNew(t, b, keyOf(t, four, 31, "c", uint64(100*i+100)), 0, "d a b")
		look(t, b, "c", true, turns)
	}
	wantUp(t, b, four)
	for _, flow := range left { // a host that turns up takes no flow away
		wantKept(t, b, flow.Key, 1, flow.Host)
	}
	wantNew(t, b, keyOf(t, four, 31, "c", 1000), 1, four)
	look(t, b, "a", false, true) // its first look of that kind was counted all the while
}

// P101: flows of a host that turns down go also where they are through, or came by Import.
func TestDroppedAllTheSame(t *testing.T) {
	b := mustNew(t, "a b", 31, 5, 1, 1)
	bring(t, b, text(t, 0, "1:a:90 2:b:90 3:a:4"), 0, 3)
	wantNoPick(t, b, 1, -1, api.ErrBound)
	look(t, b, "a", false, true)
	wantFlows(t, b, "2:b:90")
	look(t, b, "a", true, true)
	wantFlows(t, b, "2:b:90")
	wantNew(t, b, 1, 50, "a b")
}

// P101, P3
func TestNoSuchHost(t *testing.T) {
	b := plainOne(t)
	wantNew(t, b, 7, 0, four)
	was := written(b.Flows())
	for _, host := range []string{"x", "", "A", "a ", "aa", "much-too-long-a-name", "\xff"} {
		for _, is := range []bool{true, false} {
			turned, err := b.Look(host, is)
			wantErr(t, "Look", err, api.ErrNone, -1)
			if turned {
				t.Errorf("%q turned", host)
			}
			wantErr(t, "Drain", b.Drain(host, is), api.ErrNone, -1)
		}
	}
	wantUp(t, b, four)
	wantFlows(t, b, was)
	wantNew(t, b, 8, 0, four)
}

// P100: hosts that come and go by the calls of the health that is embedded: a key stays with none that is gone.
func TestHostsComeAndGo(t *testing.T) {
	b := plainOne(t)
	key := keyOf(t, four, 31, "a", 0)
	wantNew(t, b, key, 0, four)
	if err := b.Remove("a"); err != nil {
		t.Fatal(err)
	}
	wantNew(t, b, key, 1, "d b c")
	wantErr(t, "Drain", b.Drain("a", true), api.ErrNone, -1)
	if err := b.Add("e"); err != nil {
		t.Fatal(err)
	}
	other := keyOf(t, "d b c e", 31, "e", 100)
	wantNew(t, b, other, 1, "d b c")
	look(t, b, "e", true, true)
	wantNew(t, b, other, 30, "d b c e")
	drain(t, b, true, "e")
	wantKept(t, b, other, 31, "e")
	wantNew(t, b, other, 60, "d b c")
}

// P102: each Export is of the next epoch, and takes nothing away.
func TestExport(t *testing.T) {
	b := mustNew(t, "a", 31, 20, 1, 1)
	for epoch := 1; epoch <= 3; epoch++ {
		s, err := b.Export()
		if want := seal(fmt.Sprintf("flows %d 0\n", epoch)); s != want || err != nil {
			t.Errorf("%q, %v, wanted %q", s, err, want)
		}
		wantEpoch(t, b, epoch)
	}
	wantNew(t, b, 255, 7, "a")
	wantNew(t, b, 16, 40, "a") // the first one is through, and is carried as well
	s, err := b.Export()
	if want := seal("flows 4 2\n0000000000000010 a 60\n00000000000000ff a 27\n"); s != want || err != nil {
		t.Errorf("%q, %v, wanted %q", s, err, want)
	}
	wantFlows(t, b, "16:a:60 255:a:27")
	wantKept(t, b, 16, 40, "a") // and tells no tick
}

// P102: as many flows as there may be, with names as long as may be, at the last tick: the text is still one that is read.
func TestExportOfMost(t *testing.T) {
	words := "abcdefghijkl abcdefghijkm"
	one, two := mustNew(t, words, 31, api.MaxTime, 1, 1), mustNew(t, words, 31, api.MaxTime, 1, 1)
	for key := range uint64(api.MaxFlows) {
		wantNew(t, one, math.MaxUint64-key, api.MaxTick, words)
	}
	s, err := one.Export()
	if err != nil {
		t.Fatal(err)
	}
	bring(t, two, s, api.MaxTick, api.MaxFlows)
	wantFlows(t, two, written(one.Flows()))
}

// P102: behind the last epoch there is none: an error, and all is as it was.
func TestLastEpoch(t *testing.T) {
	b := mustNew(t, "a", 31, 20, 1, 1)
	bring(t, b, text(t, api.MaxTick-1, "1:a:9"), 0, 1)
	wantEpoch(t, b, api.MaxTick-1)
	if s, err := b.Export(); s != text(t, api.MaxTick, "1:a:9") || err != nil {
		t.Errorf("%q, %v", s, err)
	}
	for range 3 {
		s, err := b.Export()
		wantErr(t, "Export", err, api.ErrBound, -1)
		if s != "" {
			t.Errorf("%q, beside %v", s, err)
		}
		wantEpoch(t, b, api.MaxTick)
		wantFlows(t, b, "1:a:9")
	}
	bring(t, b, text(t, api.MaxTick, "2:a:9"), 0, 1)
	wantNoBring(t, b, text(t, api.MaxTick-1, "3:a:9"), 0, api.ErrOld, -1)
}

// P102: which flows are added, and which are not.
func TestImport(t *testing.T) {
	b := mustNew(t, "d a b c", 31, 20, 1, 1)
	look(t, b, "c", false, true)
	wantNew(t, b, 5, 0, "d a b") // its time is through at 30
	wantNew(t, b, 6, 30, "d a b")
	drain(t, b, true, "b")
	own := written(b.Flows())
	s := text(t, 4, "9:a:31 8:b:50 7:c:50 5:d:50 6:d:50 4:x:50 3:d:30 2:d:0 1:a:1030 0:a:1031 10:d:1029")
	bring(t, b, s, 30, 4)
	wantEpoch(t, b, 4)
	wantFlows(t, b, "1:a:1030 "+own+" 8:b:50 9:a:31 10:d:1029")
	bring(t, b, s, 30, 0) // of the same epoch once more: their keys have flows
	wantEpoch(t, b, 4)
	wantKept(t, b, 9, 30, "a")
	wantKept(t, b, 8, 30, "b") // up, if drained
	wantKept(t, b, 1, 30, "a")
	wantNew(t, b, 7, 30, "d a")
	wantNew(t, b, 4, 30, "d a")
	wantNew(t, b, 0, 30, "d a")
}

// P102: it goes by the order of the text till there is no more room.
func TestImportFull(t *testing.T) {
	b := mustNew(t, "a", 31, 20, 1, 1)
	for key := range uint64(api.MaxFlows - 2) {
		wantNew(t, b, 1000+key, 0, "a")
	}
	bring(t, b, text(t, 1, "9:a:40 1000:a:40 8:x:40 7:a:40 6:a:40 5:a:40"), 25, 2)
	if l := b.Flows(); len(l) != api.MaxFlows || l[0].Key != 7 || l[1].Key != 9 || l[2] != (api.Flow{Key: 1000, Host: "a", Until: 20}) {
		t.Errorf("%s", written(l))
	}
	bring(t, b, text(t, 2, "6:a:40"), 25, 0)
	wantEpoch(t, b, 2)
}

// P102: the text may say nothing that is for this one; its epoch and its now count all the same.
func TestImportOfNone(t *testing.T) {
	for _, words := range []string{"", "1:x:50", "1:b:50", "1:a:10"} {
		b := mustNew(t, "a b", 31, 20, 1, 1)
		look(t, b, "b", false, true)
		bring(t, b, text(t, 3, words), 10, 0)
		wantEpoch(t, b, 3)
		wantFlows(t, b, "")
		wantNoPick(t, b, 1, 9, api.ErrOld)
		wantNoBring(t, b, text(t, 3, words), 9, api.ErrOld, -1)
		wantNew(t, b, 1, 10, "a")
	}
}

// P102: an epoch that is the same is not old; one that is less is.
func TestImportEpochs(t *testing.T) {
	for _, own := range []int{0, 1, 5} {
		for _, read := range []int{0, 1, 4, 5, 6, api.MaxTick} {
			b := mustNew(t, "a", 31, 20, 1, 1)
			for range own {
				b.Export()
			}
			if read < own {
				wantNoBring(t, b, text(t, read, "1:a:9"), 0, api.ErrOld, -1)
				wantEpoch(t, b, own)
				wantFlows(t, b, "")
				continue
			}
			bring(t, b, text(t, read, "1:a:9"), 0, 1)
			wantEpoch(t, b, read)
			wantFlows(t, b, "1:a:9")
		}
	}
}

// P102, P3: errors in their order; none of them changes anything.
func TestImportWrongInputs(t *testing.T) {
	b := mustNew(t, four, 31, 20, 1, 1)
	host := wantNew(t, b, 9, 50, four)
	b.Export()
	b.Export()
	good := "0000000000000001 a 60\n"
	for _, now := range []int{50, 49, -1, api.MaxTick + 1, math.MinInt, math.MaxInt} {
		for _, epoch := range []string{"0", "2", "3"} { // what Read tells comes first, whatever the epoch and the tick are
			wantNoBring(t, b, strings.Repeat("x", api.MaxText+1), now, api.ErrBound, -1)
			wantNoBring(t, b, "", now, api.ErrText, -1)
			wantNoBring(t, b, "flows "+epoch+" 0\n", now, api.ErrText, -1)
			wantNoBring(t, b, seal("flows "+epoch+" 2\n"+good), now, api.ErrText, -1)
			wantNoBring(t, b, "flows "+epoch+" 1\n"+good+"sum 00000000\n", now, api.ErrSum, -1)
			wantNoBring(t, b, seal("flows "+epoch+" 2\n"+good+"0000000000000002 A 60\n"), now, api.ErrName, 1)
			wantNoBring(t, b, seal("flows "+epoch+" 2\n"+good+"0000000000000002 a 99999999999999\n"), now, api.ErrBound, 1)
			wantNoBring(t, b, seal("flows "+epoch+" 2\n"+good+good), now, api.ErrExist, 1)
		}
		wantNoBring(t, b, seal("flows 99999999999999 1\n"+good), now, api.ErrBound, -1)
		wantNoBring(t, b, seal("flows 1 1\n"+good), now, api.ErrOld, -1) // then the epoch
		wantNoBring(t, b, seal("flows 0 0\n"), now, api.ErrOld, -1)
		if now == 50 {
			continue
		}
		want := api.ErrBound
		if now == 49 {
			want = api.ErrOld
		}
		for _, body := range []string{"flows 2 0\n", "flows 3 0\n", "flows 3 1\n" + good, "flows 3 1\n0000000000000001 x 60\n"} { // then the tick
			wantNoBring(t, b, seal(body), now, want, -1)
		}
	}
	wantEpoch(t, b, 2)
	wantFlows(t, b, "9:"+host+":70")
	wantUp(t, b, four)
	wantKept(t, b, 9, 50, host)
	bring(t, b, seal("flows 2 1\n"+good), 50, 1)
}

// P103: the keys of one are kept by another, with hosts in another order, one more and one less; till their time is through.
func TestCarriedOver(t *testing.T) {
	one, two := mustNew(t, "d a b c", 31, 20, 2, 2), mustNew(t, "e c a b", 503, 100, 2, 2)
	for key := range uint64(80) {
		wantNew(t, one, key, int(key/8), four)
	}
	s, err := one.Export()
	if err != nil {
		t.Fatal(err)
	}
	l := one.Flows()
	many := 0
	for _, flow := range l {
		if flow.Host != "d" && flow.Until > 24 {
			many++
		}
	}
	if many == 0 || many == len(l) {
		t.Fatal(written(l))
	}
	bring(t, two, s, 24, many)
	wantEpoch(t, two, 1)
	drain(t, two, true, "a")
	for now := 24; now < 30; now++ {
		for _, flow := range l {
			if flow.Host != "d" && flow.Until == now+1 { // the last tick of its time
				wantKept(t, two, flow.Key, now, flow.Host)
			}
		}
	}
	for _, flow := range l { // each was kept anew, for the time of this one; the others never came
		if flow.Host != "d" && flow.Until > 24 {
			wantKept(t, two, flow.Key, 123, flow.Host)
		} else {
			wantNew(t, two, flow.Key, 123, "e c b")
		}
	}
}

// P103: back again, what another one has kept for longer does not take its place.
func TestCarriedToAndFro(t *testing.T) {
	one, two := plainOne(t), plainOne(t)
	host := wantNew(t, one, 7, 0, four)
	s, _ := one.Export()
	bring(t, two, s, 10, 1)
	wantKept(t, two, 7, 10, host)
	wantNew(t, two, 8, 10, four)
	s, err := two.Export()
	if err != nil {
		t.Fatal(err)
	}
	bring(t, one, s, 10, 1)
	wantEpoch(t, one, 2)
	if l := one.Flows(); len(l) != 2 || l[0] != (api.Flow{Key: 7, Host: host, Until: 20}) || l[1].Until != 30 {
		t.Errorf("%s", written(l))
	}
	wantKept(t, one, 7, 19, host)
}

// P3, P4
func TestNothingIsShared(t *testing.T) {
	memory := []string{"d", "a", "b", "c", "A", "a"}
	was, hosts := slices.Clone(memory), memory[:4]
	b, err := New(hosts, 31, 20, 1, 1)
	if err != nil {
		t.Fatal(err)
	}
	drain(t, b, true, "a")
	first := wantNew(t, b, 1, 0, "d b c")
	if !slices.Equal(memory, was) {
		t.Errorf("what was handed over was written: %q", memory)
	}
	for i := range memory {
		memory[i] = "x"
	}
	for range 2 {
		up := b.Up()
		for i := range up[:cap(up)] {
			up[:cap(up)][i] = "x"
		}
		l := b.Flows()
		for i := range l[:cap(l)] {
			l[:cap(l)][i] = api.Flow{Key: 77, Host: "x"}
		}
	}
	wantUp(t, b, four)
	wantFlows(t, b, "1:"+first+":20")
	wantNew(t, b, 2, 0, "d b c")
	one, two := b.Flows(), b.Flows()
	one[0].Host = "y"
	wantKept(t, b, 1, 5, first)
	if two[0] != (api.Flow{Key: 1, Host: first, Until: 20}) {
		t.Errorf("answers are shared: %v", two)
	}
}

// P1: what New gives beside an error has no hosts and no flows, and takes none.
func TestBalanceThatIsNone(t *testing.T) {
	b, err := New(nil, 31, 20, 2, 2)
	if err == nil {
		t.Fatal("no error")
	}
	wantNoPick(t, b, 1, 0, api.ErrNone)
	turned, err := b.Look("a", false)
	wantErr(t, "Look", err, api.ErrNone, -1)
	wantErr(t, "Drain", b.Drain("a", true), api.ErrNone, -1)
	s, err := b.Export()
	wantErr(t, "Export", err, api.ErrNone, -1)
	wantNoBring(t, b, text(t, 1, "1:a:9"), 0, api.ErrNone, -1)
	if turned || s != "" {
		t.Errorf("%v, %q, beside an error", turned, s)
	}
	wantUp(t, b, "")
	wantFlows(t, b, "")
	wantEpoch(t, b, 0)
}

// P2: one balance knows nothing of another, nor of who works beside.
func TestBalancesStandAlone(t *testing.T) {
	one, two := plainOne(t), plainOne(t)
	wantNew(t, one, 1, 90, four)
	drain(t, one, true, "a b")
	look(t, one, "c", false, true)
	one.Export()
	wantUp(t, two, four)
	wantFlows(t, two, "")
	wantEpoch(t, two, 0)
	for key := range uint64(20) {
		wantNew(t, two, key, 0, four)
	}
	var group sync.WaitGroup
	texts := make([]string, 8)
	for i := range texts {
		group.Go(func() {
			b, err := New(strings.Fields(four), 31, 20, 1, 1)
			for key := range uint64(100) {
				_, _, e := b.Pick(key*key, int(key))
				err = errors.Join(err, e)
			}
			_, e := b.Look("b", false)
			s, last := b.Export()
			if err = errors.Join(err, e, last); err != nil {
				t.Error(err)
			}
			texts[i] = s
		})
	}
	group.Wait()
	for _, s := range texts {
		if s != texts[0] || s == "" {
			t.Errorf("%q, wanted %q", s, texts[0])
		}
	}
}
