package health

import (
	"errors"
	"math"
	"math/rand"
	"slices"
	"strconv"
	"strings"
	"sync"
	"testing"

	"levelhand/api"
	"levelhand/mix"
)

func mustNew(t *testing.T, hosts []string, fall, rise int) *Health {
	t.Helper()
	h, err := New(hosts, fall, rise)
	if h == nil || err != nil {
		t.Fatalf("New(%q, %d, %d): %v, %v", hosts, fall, rise, h, err)
	}
	return h
}

func mustAdd(t *testing.T, h *Health, host string) {
	t.Helper()
	if err := h.Add(host); err != nil {
		t.Fatalf("Add(%q): %v", host, err)
	}
}

func mustRemove(t *testing.T, h *Health, host string) {
	t.Helper()
	if err := h.Remove(host); err != nil {
		t.Fatalf("Remove(%q): %v", host, err)
	}
}

// look, and tell whether it turned.
func look(t *testing.T, h *Health, host string, well bool) bool {
	t.Helper()
	turned, err := h.Look(host, well)
	if err != nil {
		t.Fatalf("Look(%q, %v): %v", host, well, err)
	}
	return turned
}

// looks written as a text, + well and - not; the answer has T where the host turned, and a dot where not.
func looks(t *testing.T, h *Health, host, row string) string {
	t.Helper()
	var out strings.Builder
	for _, c := range row {
		if look(t, h, host, c == '+') {
			out.WriteByte('T')
		} else {
			out.WriteByte('.')
		}
	}
	return out.String()
}

func wantUp(t *testing.T, h *Health, words string) {
	t.Helper()
	want := strings.Fields(words)
	if got := h.Up(); !slices.Equal(got, want) {
		t.Errorf("up: %q, wanted %q", got, want)
	}
	for _, host := range want {
		if !h.Is(host) {
			t.Errorf("%q is up, but not said so", host)
		}
	}
}

// turnsByHand goes back over the looks since the last turn each time, and keeps no count.
func turnsByHand(row string, up bool, fall, rise int) string {
	out, since := "", ""
	for _, c := range row {
		since += string(c)
		end := strings.Repeat("-", fall)
		if !up {
			end = strings.Repeat("+", rise)
		}
		if strings.HasSuffix(since, end) {
			up, since, out = !up, "", out+"T"
		} else {
			out += "."
		}
	}
	return out
}

// P70
func TestLooksOfSome(t *testing.T) {
	for _, c := range []struct {
		fall, rise int
		row, want  string
		up         bool
	}{
		{2, 2, "-+--", "...T", false}, // the document's own
		{1, 1, "-+-+", "TTTT", true},
		{1, 1, "++--++", "..T.T.", true},
		{1, 2, "-+-++-", "T...TT", false},
		{2, 1, "--+-+--", ".TT...T", false},
		{2, 1, "--+-", ".TT.", true}, // a turn begins anew: one look more is not the second
		{2, 3, "--++-+++-", ".T.....T.", true},
		{3, 2, "--+--+---", "........T", false},
		{3, 2, "-----", "..T..", false}, // one that is down does not turn again
		{3, 2, "---++++", "..T.T..", true},
		{3, 3, "------+++", "..T.....T", true},
		{10, 10, "---------", ".........", true},
		{10, 10, "----------", ".........T", false},
		{10, 1, "---------+---------", "...................", true},
		{4, 4, "", "", true},
	} {
		h := mustNew(t, []string{"b", "a", "c"}, c.fall, c.rise)
		if got := looks(t, h, "a", c.row); got != c.want || h.Is("a") != c.up {
			t.Errorf("%d, %d, %s: %s, up: %v, wanted %s", c.fall, c.rise, c.row, got, h.Is("a"), c.want)
		}
		if c.up {
			wantUp(t, h, "b a c")
		} else {
			wantUp(t, h, "b c")
		}
	}
}

// P70: every row of ten looks.
func TestLooksOfAll(t *testing.T) {
	for n := range 1 << 10 {
		row := strings.NewReplacer("0", "-", "1", "+").Replace(strconv.FormatInt(int64(n+1<<10), 2)[1:])
		for fall := 1; fall <= 4; fall++ {
			for rise := 1; rise <= 4; rise++ {
				h := mustNew(t, []string{"a"}, fall, rise)
				mustAdd(t, h, "b")
				got, want := looks(t, h, "a", row), turnsByHand(row, true, fall, rise)
				if got != want {
					t.Fatalf("%d, %d, %s: %s, wanted %s", fall, rise, row, got, want)
				}
				got, want = looks(t, h, "b", row), turnsByHand(row, false, fall, rise)
				if got != want {
					t.Fatalf("added, %d, %d, %s: %s, wanted %s", fall, rise, row, got, want)
				}
			}
		}
	}
}

// P70: at every edge there is, not one look sooner or later.
func TestEveryEdge(t *testing.T) {
	for fall := 1; fall <= api.MaxEdge; fall++ {
		for rise := 1; rise <= api.MaxEdge; rise++ {
			h := mustNew(t, []string{"a"}, fall, rise)
			for range 2 {
				down, up := looks(t, h, "a", strings.Repeat("-", fall)), looks(t, h, "a", strings.Repeat("+", rise))
				if down != strings.Repeat(".", fall-1)+"T" || up != strings.Repeat(".", rise-1)+"T" {
					t.Errorf("%d, %d: %s %s", fall, rise, down, up)
				}
			}
		}
	}
}

// P70: a look at one host is none at another.
func TestHostsStandAlone(t *testing.T) {
	h := mustNew(t, []string{"b", "a"}, 2, 2)
	for i, c := range []struct {
		host         string
		well, turned bool
		up           string
	}{
		{"a", false, false, "b a"}, {"b", false, false, "b a"}, {"b", true, false, "b a"}, {"a", false, true, "b"},
		{"b", false, false, "b"}, {"a", true, false, "b"}, {"b", false, true, ""}, {"a", true, true, "a"},
		{"b", true, false, "a"}, {"b", true, true, "b a"},
	} {
		if got := look(t, h, c.host, c.well); got != c.turned {
			t.Errorf("%d: %v, wanted %v", i, got, c.turned)
		}
		wantUp(t, h, c.up)
	}
}

func wantBare(t *testing.T, what string, err, want error) {
	t.Helper()
	if err != want {
		t.Errorf("%s: %#v, wanted %v, bare", what, err, want)
	}
}

// P70, P3
func TestNewWrongInputs(t *testing.T) {
	thirteen := strings.Fields("a b c d e f g h i j k l m")
	wrong := []int{0, -1, api.MaxEdge + 1, math.MinInt, math.MaxInt}
	for _, edge := range append(wrong, 1, api.MaxEdge) { // the errors of hosts come first, whatever the edges are
		h, err := New(thirteen, edge, edge)
		wantBare(t, "too many hosts", err, api.ErrBound)
		if h != nil {
			t.Errorf("%v, beside an error", h)
		}
		for _, c := range []struct {
			words string
			at    int
			want  error
		}{{"A", 0, api.ErrName}, {"a b-- 1c a", 2, api.ErrName}, {"a thirteen-long", 1, api.ErrName}, {"a b b", 2, api.ErrExist}, {"a b a B", 2, api.ErrExist}, {"a b B a", 2, api.ErrName}} {
			h, err := New(strings.Fields(c.words), edge, edge)
			f, ok := err.(*api.Fault)
			if h != nil || !ok || f.At != c.at || f.Err != c.want || !errors.Is(err, c.want) {
				t.Errorf("%q, %d: %v, %#v, wanted %v at %d", c.words, edge, h, err, c.want, c.at)
			}
		}
	}
	for _, edge := range wrong {
		for _, hosts := range [][]string{nil, {}, {"a"}, thirteen[:12]} {
			for other := 1; other <= api.MaxEdge; other++ {
				one, err := New(hosts, edge, other)
				wantBare(t, "wrong fall", err, api.ErrBound)
				two, err := New(hosts, other, edge)
				wantBare(t, "wrong rise", err, api.ErrBound)
				if one != nil || two != nil {
					t.Errorf("%v, %v, beside an error", one, two)
				}
			}
		}
	}
}

// P70, P71: no hosts are a list too, and so are as many as there may be.
func TestFewAndMany(t *testing.T) {
	for _, none := range [][]string{nil, {}} {
		h := mustNew(t, none, 1, 1)
		wantUp(t, h, "")
		mustAdd(t, h, "a")
		wantUp(t, h, "")
		if !look(t, h, "a", true) {
			t.Error("one that was added does not turn up")
		}
		wantUp(t, h, "a")
		mustRemove(t, h, "a")
		wantUp(t, h, "")
	}
	twelve := "l k j i h g f e d c b a"
	h := mustNew(t, strings.Fields(twelve), api.MaxEdge, api.MaxEdge)
	wantUp(t, h, twelve)
	for _, host := range []string{"m", "a", "A", ""} { // the bound comes ahead of the name
		wantBare(t, "one too many", h.Add(host), api.ErrBound)
	}
	wantUp(t, h, twelve)
	mustRemove(t, h, "g")
	mustAdd(t, h, "m")
	wantBare(t, "one too many", h.Add("g"), api.ErrBound)
	wantUp(t, h, "l k j i h f e d c b a")
}

// P70, P71, P3: hosts that there are not.
func TestNoSuchHost(t *testing.T) {
	h := mustNew(t, []string{"b", "a"}, 1, 1)
	mustAdd(t, h, "c")
	mustRemove(t, h, "b")
	for _, host := range []string{"b", "x", "", "A", "a ", "aa", "much-too-long-a-name", "\xff"} {
		for _, well := range []bool{true, false} {
			turned, err := h.Look(host, well)
			wantBare(t, "Look", err, api.ErrNone)
			if turned {
				t.Errorf("%q turned", host)
			}
		}
		wantBare(t, "Remove", h.Remove(host), api.ErrNone)
		if h.Is(host) {
			t.Errorf("%q is up", host)
		}
	}
	wantUp(t, h, "a")
}

// P71, P3
func TestAddWrongInputs(t *testing.T) {
	h := mustNew(t, []string{"b", "a"}, 1, 1)
	look(t, h, "b", false)
	mustAdd(t, h, "c")
	for _, host := range []string{"a", "b", "c"} { // up, down or new: there is one
		wantBare(t, host, h.Add(host), api.ErrExist)
	}
	for _, host := range []string{"", "A", "1", "-a", "a ", "a_b", "thirteen-long", "ä", "\xff"} {
		wantBare(t, host, h.Add(host), api.ErrName)
	}
	wantUp(t, h, "a")
}

// P71
func TestAddAndRemove(t *testing.T) {
	h := mustNew(t, []string{"d", "b", "c"}, 2, 2)
	mustAdd(t, h, "a")
	wantUp(t, h, "d b c")
	if h.Is("a") {
		t.Error("one that was added is up")
	}
	if got := looks(t, h, "a", "+-++"); got != "...T" {
		t.Errorf("one that was added: %s", got)
	}
	wantUp(t, h, "d b c a")
	mustRemove(t, h, "b")
	wantUp(t, h, "d c a")
	mustAdd(t, h, "b")
	if got := looks(t, h, "b", "++"); got != ".T" {
		t.Errorf("one that came again: %s", got)
	}
	wantUp(t, h, "d c a b")
	for _, host := range []string{"d", "b", "c", "a"} {
		mustRemove(t, h, host)
		if h.Is(host) {
			t.Errorf("%q is gone, and up", host)
		}
	}
	wantUp(t, h, "")
}

// Has tells of hosts that there are, whether they are up or down, and of no others.
func TestHas(t *testing.T) {
	h := mustNew(t, []string{"b", "a"}, 1, 1)
	look(t, h, "b", false)
	mustAdd(t, h, "c")
	mustRemove(t, h, "a")
	for host, want := range map[string]bool{"a": false, "b": true, "c": true, "d": false, "": false, "B": false} {
		if h.Has(host) != want {
			t.Errorf("%q: %v", host, !want)
		}
	}
	if none, _ := New(nil, 0, 0); none.Has("a") {
		t.Error("what New gives beside an error has a host")
	}
}

// P71: one that comes again begins anew, whatever was counted of it; the others go on.
func TestComeAgain(t *testing.T) {
	h := mustNew(t, []string{"a", "b"}, 3, 3)
	looks(t, h, "a", "---++")
	looks(t, h, "b", "--")
	mustRemove(t, h, "a")
	mustAdd(t, h, "a")
	if got := looks(t, h, "a", "+++"); got != "..T" {
		t.Errorf("one that came again: %s", got)
	}
	if got := looks(t, h, "b", "-"); got != "T" {
		t.Errorf("one that stayed: %s", got)
	}
	wantUp(t, h, "a")
}

// P3: a call that answers an error leaves every count as it was.
func TestErrorsChangeNothing(t *testing.T) {
	h := mustNew(t, []string{"a", "b"}, 2, 2)
	mustAdd(t, h, "c")
	for _, c := range []struct {
		host, row string
	}{{"a", "--++"}, {"b", "--++"}, {"c", "++--"}} {
		for i := range len(c.row) {
			h.Add(c.host)
			h.Add("A")
			h.Remove("x")
			h.Look("x", c.row[i] == '-')
			h.Look(c.host+" ", c.row[i] == '-')
			if turned := look(t, h, c.host, c.row[i] == '+'); turned != (i%2 == 1) {
				t.Errorf("%q, %s, %d: %v", c.host, c.row, i, turned)
			}
		}
	}
	wantUp(t, h, "a b")
}

// P72: however many single looks of the other kind there are, no host turns, where it takes two or more.
func TestSingleLooksMakeNoDifference(t *testing.T) {
	r := rand.New(rand.NewSource(72))
	for edge := 2; edge <= api.MaxEdge; edge++ {
		for _, other := range []int{1, 2, api.MaxEdge} {
			up, down := mustNew(t, []string{"a", "b"}, edge, other), mustNew(t, []string{"b"}, other, edge)
			mustAdd(t, down, "a")
			for range 500 {
				for n := r.Intn(3); n >= 0; n-- {
					if look(t, up, "a", true) || look(t, down, "a", false) {
						t.Fatalf("%d, %d: a look of its own kind turned a host", edge, other)
					}
				}
				if look(t, up, "a", false) || look(t, down, "a", true) {
					t.Fatalf("%d, %d: a single look turned a host", edge, other)
				}
			}
			wantUp(t, up, "a b")
			wantUp(t, down, "b")
			looks(t, up, "a", "+") // they left nothing behind: it takes as many as ever
			looks(t, down, "a", "-")
			if got := looks(t, up, "a", strings.Repeat("-", edge)); got != strings.Repeat(".", edge-1)+"T" {
				t.Errorf("%d, %d: %s", edge, other, got)
			}
			if got := looks(t, down, "a", strings.Repeat("+", edge)); got != strings.Repeat(".", edge-1)+"T" {
				t.Errorf("%d, %d: %s", edge, other, got)
			}
		}
	}
}

// P2: one health knows nothing of another, nor of who works beside.
func TestHealthsStandAlone(t *testing.T) {
	hosts := []string{"b", "a"}
	one, two := mustNew(t, hosts, 2, 1), mustNew(t, hosts, 2, 1)
	looks(t, one, "a", "--")
	looks(t, one, "b", "-")
	mustRemove(t, one, "b")
	mustAdd(t, one, "c")
	wantUp(t, two, "b a")
	if got := looks(t, two, "b", "--"); got != ".T" {
		t.Errorf("%s", got)
	}
	var group sync.WaitGroup
	for range 8 {
		group.Go(func() {
			h, err := New(hosts, 3, 2)
			if err != nil {
				t.Error(err)
				return
			}
			turns := ""
			for _, c := range "--+---+-++-" {
				turned, err := h.Look("a", c == '+')
				turns += strconv.FormatBool(turned)[:1]
				if err != nil {
					t.Error(err)
				}
			}
			if turns != "ffffftffftf" || !slices.Equal(h.Up(), hosts) {
				t.Error(turns, h.Up())
			}
		})
	}
	group.Wait()
}

// P3, P4
func TestNothingIsShared(t *testing.T) {
	names := []string{"c", "a", "b", "A", "a"}
	kept, hosts := slices.Clone(names), names[:3]
	h := mustNew(t, hosts, 1, 1)
	mustAdd(t, h, "d")
	mustRemove(t, h, "a")
	look(t, h, "d", true)
	if !slices.Equal(names, kept) {
		t.Errorf("what was handed over was written: %q", names)
	}
	for i := range names {
		names[i] = "x"
	}
	wantUp(t, h, "c b d")
	one, two := h.Up(), h.Up()
	for _, l := range [][]string{one[:cap(one)], two[:cap(two)]} {
		for i := range l {
			l[i] = "x"
		}
		wantUp(t, h, "c b d")
	}
	one, two = h.Up(), h.Up()
	one[0], two[1] = "y", "z"
	look(t, h, "d", false)
	if !slices.Equal(one, []string{"y", "b", "d"}) || !slices.Equal(two, []string{"c", "z", "d"}) {
		t.Errorf("answers are shared: %q, %q", one, two)
	}
}

// P1: what New gives beside an error has no hosts, and takes none.
func TestHealthThatIsNone(t *testing.T) {
	h, err := New([]string{"a"}, 0, 0)
	if err == nil {
		t.Fatal("no error")
	}
	turned, err := h.Look("a", false)
	wantBare(t, "Look", err, api.ErrNone)
	if turned || len(h.Up()) != 0 || h.Is("a") {
		t.Error("it has hosts")
	}
	wantBare(t, "Add", h.Add("a"), api.ErrNone)
	wantBare(t, "Remove", h.Remove("a"), api.ErrNone)
}

// byHand: of each host its looks since it came; all else is worked out of them anew.
type byHand struct {
	fall, rise int
	hosts      []string
	rows       map[string]string
	first      map[string]bool // up at first?
}

func (b *byHand) is(host string) bool {
	if !slices.Contains(b.hosts, host) {
		return false
	}
	return b.first[host] != (strings.Count(turnsByHand(b.rows[host], b.first[host], b.fall, b.rise), "T")%2 == 1)
}

func (b *byHand) up() []string {
	return slices.DeleteFunc(slices.Clone(b.hosts), func(host string) bool { return !b.is(host) })
}

func (b *byHand) look(host string, well bool) (bool, error) {
	if !slices.Contains(b.hosts, host) {
		return false, api.ErrNone
	}
	was := b.is(host)
	if well {
		b.rows[host] += "+"
	} else {
		b.rows[host] += "-"
	}
	return b.is(host) != was, nil
}

func (b *byHand) add(host string) error {
	if len(b.hosts) == api.MaxHosts {
		return api.ErrBound
	}
	if slices.Contains(b.hosts, host) {
		return api.ErrExist
	}
	if mix.Check([]string{host}) != nil {
		return api.ErrName
	}
	b.hosts, b.rows[host], b.first[host] = append(b.hosts, host), "", false
	return nil
}

func (b *byHand) remove(host string) error {
	i := slices.Index(b.hosts, host)
	if i < 0 {
		return api.ErrNone
	}
	b.hosts = append(slices.Clone(b.hosts[:i]), b.hosts[i+1:]...)
	return nil
}

// live through steps: two bytes each, what is done and to which name.
func live(t *testing.T, hosts []string, fall, rise int, steps []byte) {
	t.Helper()
	h, b := mustNew(t, hosts, fall, rise), &byHand{fall, rise, slices.Clone(hosts), map[string]string{}, map[string]bool{}}
	for _, host := range hosts {
		b.first[host] = true
	}
	for ; len(steps) >= 2; steps = steps[2:] {
		host := string('a' + rune(steps[1]%16))
		if steps[1] == 255 {
			host = "A"
		}
		var got, want error
		var turned, turns bool
		switch steps[0] % 8 {
		case 0:
			got, want = h.Add(host), b.add(host)
		case 1:
			got, want = h.Remove(host), b.remove(host)
		default:
			turned, got = h.Look(host, steps[0]&8 == 0)
			turns, want = b.look(host, steps[0]&8 == 0)
		}
		if got != want || turned != turns || h.Is(host) != b.is(host) || !slices.Equal(h.Up(), b.up()) {
			t.Fatalf("%q, %d, %d: %d at %q: %v, %v, %q, wanted %v, %v, %q", hosts, fall, rise, steps[0], host, turned, got, h.Up(), turns, want, b.up())
		}
	}
}

// P70, P71
func TestLivesByHand(t *testing.T) {
	r := rand.New(rand.NewSource(70))
	for many := range api.MaxHosts + 1 {
		hosts := strings.Fields("g c b a k d l f j e h i")[:many]
		for range 8 {
			steps := make([]byte, 600)
			r.Read(steps)
			live(t, hosts, 1+r.Intn(4), 1+r.Intn(4), steps)
		}
	}
}

// P1, P70, P71
func FuzzHealth(f *testing.F) {
	f.Add("a b c", 2, 2, []byte("\x0a\x00\x0a\x00\x02\x00\x02\x00\x01\x00\x00\x00"))
	f.Add("", 1, 10, []byte("\x00\x01\x02\x01"))
	f.Add("a a", 0, 11, []byte(nil))
	f.Fuzz(func(t *testing.T, words string, fall, rise int, steps []byte) {
		hosts := strings.Fields(words)
		h, err := New(hosts, fall, rise)
		good := mix.Check(hosts) == nil && min(fall, rise) >= 1 && max(fall, rise) <= api.MaxEdge
		if (err == nil) != good || (h != nil) != good {
			t.Fatalf("%q, %d, %d: %v, %v", hosts, fall, rise, h, err)
		}
		if good {
			live(t, hosts, fall, rise, steps[:min(len(steps), 400)])
		}
	})
}
