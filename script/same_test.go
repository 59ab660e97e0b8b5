package script

import (
	"fmt"
	"math/rand"
	"regexp"
	"slices"
	"strconv"
	"strings"
	"sync"
	"testing"

	"levelhand/api"
	"levelhand/balance"
	"levelhand/jump"
	"levelhand/ring"
	"levelhand/rival"
	"levelhand/table"
)

// forms of all commands, apart from the program's own way to read them.
var forms = regexp.MustCompile(strings.NewReplacer("N", `(0|[1-9][0-9]{0,6})`, "H", `[a-z][a-z0-9-]{0,11}`).Replace(
	`\A(hosts( H)+|(table|rival|pick|tick) N|moves N( H)+|(ring|jump) N N|(look|drain) H [01]|up|flows|export)\z`))

// byHand: what a script is about, each command done by the calls of the packages.
type byHand struct {
	b     *balance.Balance
	hosts []string
	now   int
}

// split a line that is a command into its name, its numbers and its hosts.
func split(line string) (name string, n []int, hosts []string, ok bool) {
	if !forms.MatchString(line) {
		return "", nil, nil, false
	}
	words := strings.Fields(line)
	for _, word := range words[1:] {
		if number, err := strconv.Atoi(word); err == nil {
			n = append(n, number)
		} else {
			hosts = append(hosts, word)
		}
	}
	return words[0], n, hosts, true
}

func (h *byHand) answer(line string) string {
	name, n, hosts, ok := split(line)
	if !ok {
		return textError
	}
	if h.b == nil && name != "jump" && name != "hosts" {
		return noneError
	}
	answer, err := h.do(name, n, hosts)
	for _, e := range []string{"bound", "shape", "none", "exist"} {
		if err != nil && strings.HasSuffix(err.Error(), e) {
			return "levelhand: " + e
		}
	}
	return answer
}

func (h *byHand) do(name string, n []int, hosts []string) (answer string, err error) {
	switch name {
	case "hosts":
		b, err := balance.New(hosts, 31, 20, 2, 2)
		if err == nil {
			h.b, h.hosts, h.now = b, hosts, 0
		}
		return "ok", err
	case "table":
		slots, err := table.Make(h.hosts, n[0])
		for _, slot := range slots {
			answer += " " + h.hosts[slot]
		}
		return strings.TrimPrefix(answer, " "), err
	case "moves":
		many, err := table.Moves(h.hosts, hosts, n[0])
		return fmt.Sprint(many), err
	case "ring":
		r, err := ring.New(h.hosts, n[0])
		if err != nil {
			return "", err
		}
		return r.Host(uint64(n[1])), nil
	case "rival":
		order, err := rival.Order(h.hosts, uint64(n[0]))
		return strings.Trim(fmt.Sprint(order), "[]"), err
	case "jump":
		bucket, err := jump.Bucket(uint64(n[0]), n[1])
		return fmt.Sprint(bucket), err
	}
	return h.doBalance(name, n, hosts)
}

func (h *byHand) doBalance(name string, n []int, hosts []string) (answer string, err error) {
	switch name {
	case "pick":
		host, kept, err := h.b.Pick(uint64(n[0]), h.now)
		return host + map[bool]string{true: " kept", false: " new"}[kept], err
	case "look":
		turned, err := h.b.Look(hosts[0], n[0] == 1)
		return map[bool]string{true: "turned", false: "same"}[turned], err
	case "drain":
		return "ok", h.b.Drain(hosts[0], n[0] == 1)
	case "tick":
		h.now += n[0]
		return "ok", nil
	case "up":
		answer = strings.Join(h.b.Up(), " ")
	case "flows":
		for _, f := range h.b.Flows() {
			answer += fmt.Sprintf(", %d %s", f.Key, f.Host)
		}
		answer = strings.TrimPrefix(answer, ", ")
	case "export":
		answer, err = h.b.Export()
		answer = strings.TrimSuffix(strings.ReplaceAll(answer, "\n", "; "), "; ")
	}
	if answer == "" {
		answer = "nothing"
	}
	return answer, err
}

// one of some words.
func one(r *rand.Rand, words ...string) string { return words[r.Intn(len(words))] }

// chanceHosts: some of few names, now and then one of them twice, or too many.
func chanceHosts(r *rand.Rand) string {
	names := strings.Fields("a b c d e f g h i j k l web-1 abcdefghijkl")
	r.Shuffle(len(names), func(i, k int) { names[i], names[k] = names[k], names[i] })
	some := names[:1+r.Intn(4)]
	switch r.Intn(12) {
	case 0:
		some = append(some, some[0])
	case 1:
		some = names[:12+r.Intn(3)]
	}
	return strings.Join(some, " ")
}

// chanceLine: most of them are commands that come through, of few hosts and keys, so that they meet.
func chanceLine(r *rand.Rand) string {
	number := one(r, "0", "1", "2", "3", "7", "16", "17", "31", "503", "504", "1048576", "1048577", "9999999", strconv.Itoa(r.Intn(600)))
	host := one(r, "a", "a", "b", "b", "c", "d")
	line := one(r, "table "+number, "moves "+number+" "+chanceHosts(r), "ring "+strconv.Itoa(r.Intn(18))+" "+number, "rival "+number, "jump "+number+" "+number, "up", "flows", "export")
	switch r.Intn(20) {
	case 0:
		line = "hosts " + one(r, chanceHosts(r), "a b", "b a c", "c d a b")
	case 1, 2, 3, 4, 5, 6, 7:
		line = "pick " + strconv.Itoa(r.Intn(10))
	case 8, 9, 10, 11:
		line = "look " + host + one(r, " 0", " 0", " 1")
	case 12, 13:
		line = "drain " + host + one(r, " 0", " 1")
	case 14, 15:
		line = "tick " + one(r, "0", "1", "4", "9", "19", "20", "9999999")
	}
	if r.Intn(15) == 0 { // spoilt
		at := r.Intn(len(line) + 1)
		line = line[:at] + one(r, " ", "0", "a", "A", "-", "\n", " 7", " x", "1234567", "") + line[at+min(r.Intn(2), len(line)-at):]
	}
	return line
}

func chanceLines(seed int64, many int) []string {
	r := rand.New(rand.NewSource(seed))
	lines := make([]string, many)
	for i := range lines {
		lines[i] = chanceLine(r)
	}
	if many > 3 {
		lines[r.Intn(3)] = "hosts a b c"
	}
	return lines
}

// P130, P131: what the packages answer is what a script does.
func TestAgainstTheCalls(t *testing.T) {
	came := map[string]int{}
	for seed := range int64(400) {
		lines := chanceLines(seed, int(seed)%(api.MaxLines+1))
		h := &byHand{}
		for i, got := range mustRun(t, lines) {
			want := h.answer(lines[i])
			if got != want {
				t.Fatalf("%q: %q, wanted %q", lines[:i+1], got, want)
			}
			name, _, _ := strings.Cut(lines[i], " ")
			came[name+" "+strings.TrimPrefix(got[strings.LastIndex(got, " ")+1:], "levelhand: ")]++
		}
	}
	for _, what := range []string{
		"hosts ok", "hosts exist", "hosts bound", "table bound", "table shape", "moves bound", "moves shape", "moves exist", "ring bound", "jump bound",
		"pick new", "pick kept", "pick none", "look same", "look turned", "look none", "drain ok", "drain none", "tick ok", "up c", "up nothing", "up none",
		"flows nothing", "flows none", "export none", "hosts text", "pick text", "look text", "tick text", "up text",
	} {
		if came[what] == 0 {
			t.Errorf("never came about: %s", what)
		}
	}
}

// P132: the same lines make the same answers, again and side by side, whatever was run ahead.
func TestSameLinesSameAnswers(t *testing.T) {
	for seed := range int64(10) {
		lines := chanceLines(seed, api.MaxLines)
		want := mustRun(t, lines)
		mustRun(t, chanceLines(seed+1000, api.MaxLines))
		var all sync.WaitGroup
		for range 8 {
			all.Go(func() {
				if got, err := Run(lines); err != nil || !slices.Equal(got, want) {
					t.Errorf("seed %d: %q, %v, wanted %q", seed, got, err, want)
				}
			})
		}
		all.Wait()
	}
}

// P132: a script has nothing of one ahead of it, and its first lines answer the same, whatever comes behind them.
func TestScriptsAreApart(t *testing.T) {
	mustRun(t, []string{"hosts a", "pick 1", "tick 5"})
	for _, line := range []string{"up", "flows", "pick 1", "tick 1", "export", "table 7"} {
		if got := answerTo(t, line); got != noneError {
			t.Errorf("%q: %q", line, got)
		}
	}
	lines := chanceLines(7, api.MaxLines)
	want := mustRun(t, lines)
	for many := range lines {
		if got := mustRun(t, lines[:many]); !slices.Equal(got, want[:many]) {
			t.Errorf("%d lines: %q, wanted %q", many, got, want[:many])
		}
	}
}

// P130: lines are only read, nothing behind their length is, and answers are new memory.
func TestMemoryOfLines(t *testing.T) {
	room := append(chanceLines(3, 40), "hosts z", "pick 1")
	kept := slices.Clone(room)
	lines := room[:40]
	first := mustRun(t, lines)
	if !slices.Equal(room, kept) {
		t.Errorf("%q, was %q", room, kept)
	}
	want := slices.Clone(first)
	first = first[:cap(first)]
	for i := range first {
		first[i] = "spoilt"
	}
	if got := mustRun(t, lines); !slices.Equal(got, want) || !slices.Equal(room, kept) {
		t.Errorf("%q, wanted %q", got, want)
	}
}

// P130: whatever stands in a line, each has an answer of one line, and none panics.
func FuzzLines(f *testing.F) {
	f.Add("hosts a b\npick 1\nexport")
	f.Add(strings.Join(allCommands, "\n"))
	f.Fuzz(func(t *testing.T, text string) {
		lines := strings.Split(text, "\n")
		answers, err := Run(lines)
		if len(lines) > api.MaxLines {
			if err != api.ErrBound || len(answers) != 0 {
				t.Errorf("%d lines: %q, %v", len(lines), answers, err)
			}
			return
		}
		h := &byHand{}
		for i, got := range answers {
			if want := h.answer(lines[i]); got != want || strings.Contains(got, "\n") {
				t.Errorf("%q: %q, wanted %q", lines[:i+1], got, want)
			}
		}
		if err != nil || len(answers) != len(lines) {
			t.Errorf("%d lines: %d answers, %v", len(lines), len(answers), err)
		}
	})
}
