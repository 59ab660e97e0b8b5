package balance

import (
	"cmp"
	"math"
	"math/rand"
	"slices"
	"strings"
	"testing"

	"levelhand/api"
	"levelhand/carry"
	"levelhand/mix"
)

// byHand: a balance that keeps all that it was told, and works the rest out of it anew.
type byHand struct {
	size, time, fall, rise int
	hosts                  []string
	rows                   map[string]string // looks since a host's last turn, + well and - not
	down, drained          map[string]bool
	flows                  []api.Flow // in the order in which they came
	latest, epoch          int
}

func newByHand(words string, size, time, fall, rise int) *byHand {
	return &byHand{size: size, time: time, fall: fall, rise: rise, hosts: strings.Fields(words), rows: map[string]string{}, down: map[string]bool{}, drained: map[string]bool{}}
}

func (h *byHand) up() []string {
	return slices.DeleteFunc(slices.Clone(h.hosts), func(host string) bool { return h.down[host] })
}

func (h *byHand) isUp(host string) bool { return slices.Contains(h.up(), host) }

func (h *byHand) list() []api.Flow {
	l := slices.Clone(h.flows)
	slices.SortFunc(l, func(a, b api.Flow) int { return cmp.Compare(a.Key, b.Key) })
	return l
}

func (h *byHand) at(key uint64) int {
	return slices.IndexFunc(h.flows, func(flow api.Flow) bool { return flow.Key == key })
}

func (h *byHand) tick(now int) error {
	if now < 0 || now > 1<<40 {
		return api.ErrBound
	}
	if now < h.latest {
		return api.ErrOld
	}
	return nil
}

func (h *byHand) pick(t *testing.T, key uint64, now int) (string, bool, error) {
	if err := h.tick(now); err != nil {
		return "", false, err
	}
	h.latest = now
	if i := h.at(key); i >= 0 && h.flows[i].Until > now && h.isUp(h.flows[i].Host) {
		h.flows[i].Until = now + h.time
		return h.flows[i].Host, true, nil
	}
	open := slices.DeleteFunc(h.up(), func(host string) bool { return h.drained[host] })
	if len(open) == 0 {
		return "", false, api.ErrNone
	}
	host := slotHost(t, open, h.size, key)
	if i := h.at(key); i >= 0 {
		h.flows = slices.Delete(h.flows, i, i+1)
	}
	if len(h.flows) == 200 {
		i := h.at(slices.MinFunc(h.list(), func(a, b api.Flow) int { return cmp.Compare(a.Until, b.Until) }).Key)
		h.flows = slices.Delete(h.flows, i, i+1)
	}
	h.flows = append(h.flows, api.Flow{Key: key, Host: host, Until: now + h.time})
	return host, false, nil
}

func (h *byHand) look(host string, well bool) (bool, error) {
	if !slices.Contains(h.hosts, host) {
		return false, api.ErrNone
	}
	end := strings.Repeat("-", h.fall)
	if h.down[host] {
		end = strings.Repeat("+", h.rise)
	}
	h.rows[host] += map[bool]string{true: "+", false: "-"}[well]
	if !strings.HasSuffix(h.rows[host], end) {
		return false, nil
	}
	h.rows[host], h.down[host] = "", !h.down[host]
	if h.down[host] {
		h.flows = slices.DeleteFunc(h.flows, func(flow api.Flow) bool { return flow.Host == host })
	}
	return true, nil
}

func (h *byHand) drain(host string, is bool) error {
	if !slices.Contains(h.hosts, host) {
		return api.ErrNone
	}
	h.drained[host] = is
	return nil
}

func (h *byHand) bring(epoch int, l []api.Flow, now int) (int, error) {
	if epoch < h.epoch {
		return 0, api.ErrOld
	}
	if err := h.tick(now); err != nil {
		return 0, err
	}
	h.latest, h.epoch = now, epoch
	before := len(h.flows)
	for _, flow := range l {
		if h.isUp(flow.Host) && h.at(flow.Key) < 0 && flow.Until > now && flow.Until <= now+1000 && len(h.flows) < 200 {
			h.flows = append(h.flows, flow)
		}
	}
	return len(h.flows) - before, nil
}

// pair of a balance and the same by hand.
type pair struct {
	b *Balance
	h *byHand
}

func mustPair(t *testing.T, words string, size, time, fall, rise int) pair {
	t.Helper()
	return pair{mustNew(t, words, size, time, fall, rise), newByHand(words, size, time, fall, rise)}
}

// play: two balances, whose hosts are not all the same, and a tick.
type play struct {
	both [2]pair
	now  int
	done map[string]int // how often each thing came about
}

func newPlay(t *testing.T, time int) *play {
	t.Helper()
	return &play{both: [2]pair{mustPair(t, "d a b c", 31, time, 2, 1), mustPair(t, "b e a c", 7, min(time+3, api.MaxTime), 1, 2)}, done: map[string]int{}}
}

func (p *play) same(t *testing.T, what string, got, want any, err, wantErr error) {
	t.Helper()
	if got != want || err != wantErr {
		t.Fatalf("%s at %d: %v, %#v, wanted %v, %v", what, p.now, got, err, want, wantErr)
	}
	if wantErr != nil {
		what += " " + wantErr.Error()
	}
	p.done[what]++
}

type picked struct {
	host string
	kept bool
}

func (p *play) pick(t *testing.T, one pair, key uint64, now int) {
	t.Helper()
	host, kept, err := one.b.Pick(key, now)
	hand, is, want := one.h.pick(t, key, now)
	what := "new"
	if is {
		what = "kept"
	}
	p.same(t, what, picked{host, kept}, picked{hand, is}, err, want)
}

func (p *play) export(t *testing.T, one pair) string {
	t.Helper()
	s, err := one.b.Export()
	one.h.epoch++
	hand, want := carry.Text(one.h.epoch, one.h.list())
	p.same(t, "export", s, hand, err, want)
	return s
}

func (p *play) carry(t *testing.T, from, to pair, now int) {
	t.Helper()
	s := p.export(t, from)
	n, err := to.b.Import(s, now)
	m, want := to.h.bring(from.h.epoch, from.h.list(), now)
	p.same(t, "carried", n, m, err, want)
}

func hostOf(c byte) string {
	if c%32 == 31 {
		return "B"
	}
	return string('a' + rune(c%6))
}

// step of four bytes: what is done, two of the key (the second of them may spoil the tick), and one of host and tick.
func (p *play) step(t *testing.T, s []byte) {
	t.Helper()
	one, other := p.both[s[0]>>7], p.both[1-s[0]>>7]
	key, host := uint64(s[1])|uint64(s[2]%2)<<8, hostOf(s[3])
	p.now += int(s[3] / 32 % 2)
	now := p.now
	if s[2] >= 250 {
		now = []int{-1, p.now - 1, api.MaxTick + 1, math.MinInt, math.MaxInt, p.now - 300}[s[2]-250]
	}
	switch s[0] % 16 {
	case 0, 1:
		turned, err := one.b.Look(host, s[1]%2 == 0)
		turns, want := one.h.look(host, s[1]%2 == 0)
		p.same(t, "look", turned, turns, err, want)
	case 2:
		p.same(t, "drain", nil, nil, one.b.Drain(host, s[1]%2 == 0), one.h.drain(host, s[1]%2 == 0))
	case 3:
		if s[1]%4 == 0 { // a text that nobody reads: what the other one writes may be old then
			p.export(t, one)
		} else {
			p.carry(t, one, other, now)
		}
	default:
		p.pick(t, one, key, now)
	}
}

// live through steps, and hold both balances to the same by hand behind each.
func (p *play) live(t *testing.T, steps []byte) {
	t.Helper()
	for ; len(steps) >= 4; steps = steps[4:] {
		p.step(t, steps[:4])
		for _, one := range p.both {
			if !slices.Equal(one.b.Up(), one.h.up()) || !slices.Equal(one.b.Flows(), one.h.list()) || one.b.Epoch() != one.h.epoch {
				t.Fatalf("%d: %q, %s, %d, wanted %q, %s, %d", steps[:4], one.b.Up(), written(one.b.Flows()), one.b.Epoch(), one.h.up(), written(one.h.list()), one.h.epoch)
			}
			p.done["full"] += len(one.h.flows) / api.MaxFlows
		}
	}
}

// P100 to P103
func TestLivesByHand(t *testing.T) {
	r := rand.New(rand.NewSource(100))
	done := map[string]int{}
	for _, time := range []int{1, 5, 20, 300, api.MaxTime} {
		for round := range 6 {
			p := newPlay(t, time)
			steps := make([]byte, 4*1000)
			r.Read(steps)
			for i := 0; i < len(steps); i += 4 {
				if round%2 == 0 && steps[i]%16 < 2 && steps[i+1]%8 != 0 { // every other life has few looks that are not well, so that it fills
					steps[i+1] &^= 1
				}
			}
			p.live(t, steps)
			for what, n := range p.done {
				done[what] += n
			}
		}
	}
	for _, what := range []string{"new", "kept", "look", "drain", "export", "carried", "full", "new levelhand: bound", "new levelhand: old", "new levelhand: none", "look levelhand: none", "drain levelhand: none", "carried levelhand: old", "carried levelhand: bound"} {
		if done[what] < 20 {
			t.Errorf("%s: only %d times", what, done[what])
		}
	}
}

// P1, P100 to P102
func FuzzBalance(f *testing.F) {
	f.Add(20, uint64(7), "a b", 31, 2, 2, []byte("\x07\x03\x00\x01\x84\x03\x00\x21\x03\x05\x00\x21\x83\x00\x00\x03"))
	f.Add(1, uint64(0), "a", 2, 1, 1, []byte("\x02\x02\x00\x00\x00\x01\x00\x01\x05\x01\xfa\x01"))
	f.Add(0, uint64(1), "a a", 4, 0, 11, []byte(nil))
	f.Fuzz(func(t *testing.T, time int, key uint64, words string, size, fall, rise int, steps []byte) {
		hosts := strings.Fields(words)
		b, err := New(hosts, size, time, fall, rise)
		prime := size >= 2 && size <= 503
		for d := 2; d < size && prime; d++ {
			prime = size%d != 0
		}
		good := len(hosts) > 0 && mix.Check(hosts) == nil && prime && time >= 1 && time <= 1000 && min(fall, rise) >= 1 && max(fall, rise) <= 10
		if (err == nil) != good || (b != nil) != good {
			t.Fatalf("%q, %d, %d, %d, %d: %v, %v", hosts, size, time, fall, rise, b, err)
		}
		if !good {
			return
		}
		wantNew(t, b, key, 0, words)
		b.Import(words, 0)
		newPlay(t, time).live(t, steps[:min(len(steps), 4*600)])
	})
}

// promise of a key, as far as others see it: its host, and the tick at which it is no more.
type promise struct {
	host  string
	until int
}

// watch what is promised to the keys of a balance: all of it is taken from what its calls answered.
type watch struct {
	b    *Balance
	time int
	keys map[uint64]promise
}

func newWatch(t *testing.T, words string, time int) *watch {
	t.Helper()
	return &watch{mustNew(t, words, 31, time, 2, 2), time, map[uint64]promise{}}
}

// promised: does the key have a host that is up, and is its time not through?
func (w *watch) promised(key uint64, now int) bool {
	p, ok := w.keys[key]
	return ok && now < p.until
}

func (w *watch) pick(t *testing.T, key uint64, now int) {
	t.Helper()
	host, kept, err := w.b.Pick(key, now)
	if w.promised(key, now) && (host != w.keys[key].host || !kept || err != nil) {
		t.Fatalf("Pick(%d, %d): %q, %v, %v, though %v was promised", key, now, host, kept, err, w.keys[key])
	}
	if err == nil {
		w.keys[key] = promise{host, now + w.time}
	}
}

func (w *watch) look(host string, well bool) {
	w.b.Look(host, well)
	for key, p := range w.keys {
		if !slices.Contains(w.b.Up(), p.host) {
			delete(w.keys, key)
		}
	}
}

// take over the promises of another one to keys that are new here. A key that was here once may still stand in the way.
func (w *watch) take(t *testing.T, from *watch, now int) {
	t.Helper()
	s, err := from.b.Export()
	if err != nil {
		t.Fatal(err)
	}
	if _, err := w.b.Import(s, now); err != nil {
		t.Fatal(err)
	}
	for key, p := range from.keys {
		if _, here := w.keys[key]; !here && now < p.until && slices.Contains(w.b.Up(), p.host) {
			w.keys[key] = p
		}
	}
}

// P103: whatever comes about, so few keys that none is driven out.
func TestKeysStay(t *testing.T) {
	r := rand.New(rand.NewSource(103))
	for _, time := range []int{1, 2, 20, 200} {
		for range 6 {
			both := []*watch{newWatch(t, "d a b c", time), newWatch(t, "b e c a", time+5)}
			now, taken := 0, 0
			for range 3000 {
				i := r.Intn(2)
				switch w, host := both[i], string('a'+rune(r.Intn(5))); r.Intn(12) {
				case 0:
					w.look(host, r.Intn(4) > 0)
				case 1:
					w.b.Drain(host, r.Intn(2) == 0)
				case 2:
					now += r.Intn(3)
				case 3:
					before := len(w.keys)
					w.take(t, both[1-i], now)
					taken += len(w.keys) - before
				default:
					w.pick(t, uint64(r.Intn(api.MaxFlows)), now)
				}
			}
			for _, w := range both {
				for key := range uint64(api.MaxFlows) {
					w.pick(t, key, now)
				}
			}
			if taken == 0 {
				t.Errorf("time %d: no promise was ever taken over", time)
			}
		}
	}
}
