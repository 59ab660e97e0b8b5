package script

import (
	"slices"
	"strconv"
	"strings"
	"testing"

	"levelhand/api"
	"levelhand/carry"
)

// allCommands: each once, with words that are right while there is a host a.
var allCommands = []string{
	"hosts a b", "table 7", "moves 7 a b", "ring 2 5", "rival 5", "jump 5 3", "pick 5",
	"look a 0", "drain a 1", "tick 3", "up", "flows", "export",
}

const (
	textError  = "levelhand: text"
	noneError  = "levelhand: none"
	boundError = "levelhand: bound"
	existError = "levelhand: exist"
)

func mustRun(t *testing.T, lines []string) []string {
	t.Helper()
	got, err := Run(lines)
	if err != nil || len(got) != len(lines) {
		t.Fatalf("%d lines: %d answers, %v", len(lines), len(got), err)
	}
	return got
}

// wantRows: one script, each row of it written as LINE => ANSWER.
func wantRows(t *testing.T, rows string) {
	t.Helper()
	var lines, want []string
	for row := range strings.SplitSeq(strings.TrimSpace(rows), "\n") {
		line, answer, ok := strings.Cut(row, " => ")
		if !ok {
			t.Fatalf("no row: %q", row)
		}
		lines, want = append(lines, line), append(want, answer)
	}
	for i, got := range mustRun(t, lines) {
		if got != want[i] {
			t.Errorf("row %d, %q: %q, wanted %q", i, lines[i], got, want[i])
		}
	}
}

// answerTo one line, behind others.
func answerTo(t *testing.T, line string, ahead ...string) string {
	t.Helper()
	answers := mustRun(t, append(slices.Clone(ahead), line))
	return answers[len(ahead)]
}

// wantText: the line is none, with hosts and without them.
func wantText(t *testing.T, line string) {
	t.Helper()
	for _, ahead := range [][]string{nil, {"hosts a b"}} {
		if got := answerTo(t, line, ahead...); got != textError {
			t.Errorf("%q behind %q: %q, wanted %q", line, ahead, got, textError)
		}
	}
}

// wantCommand: the line is one, whatever it answers.
func wantCommand(t *testing.T, line string) {
	t.Helper()
	if got := answerTo(t, line, "hosts a b"); got == textError {
		t.Errorf("%q: %q", line, got)
	}
}

// P130: answers that were worked out apart from this program. The hosts are told in no order of their names.
func TestKnownAnswers(t *testing.T) {
	wantRows(t, `
hosts web-2 db web-1 => ok
table 2 => web-1 db
table 7 => web-2 web-1 web-2 db db web-1 db
table 31 => web-2 web-2 web-1 web-1 web-2 db web-1 web-1 db db db web-1 web-2 db web-2 web-1 web-1 web-2 db web-2 db web-1 web-2 web-2 web-1 web-1 db web-2 db db db
moves 31 web-2 db web-1 => 0
moves 31 web-1 web-2 => 12
moves 31 web-1 web-2 db x => 9
moves 503 web-1 web-2 db x => 132
moves 503 a => 503
moves 2 db => 1
ring 1 0 => web-1
ring 1 1 => web-2
ring 16 0 => web-2
ring 16 2 => web-1
ring 16 9999999 => web-1
rival 0 => web-1 web-2 db
rival 1 => web-1 db web-2
rival 3 => db web-2 web-1
rival 9999999 => web-2 db web-1
jump 0 1 => 0
jump 42 10 => 2
jump 1 1048576 => 985611
jump 9999999 1000 => 264
up => web-2 db web-1
flows => nothing
export => flows 1 0; sum a61e64e1
`)
}

// P130: a balance in a script, worked out apart from this program. Flows are listed by the numbers of their keys: as a text, 10 would stand ahead of 2.
func TestKnownPicks(t *testing.T) {
	wantRows(t, `
hosts web-2 db web-1 => ok
pick 0 => web-1 new
pick 1 => db new
pick 2 => db new
pick 3 => db new
pick 9999999 => web-2 new
pick 10 => web-2 new
tick 19 => ok
pick 1 => db kept
tick 1 => ok
flows => 0 web-1, 1 db, 2 db, 3 db, 10 web-2, 9999999 web-2
pick 2 => db new
pick 3 => db new
pick 1 => db kept
drain web-1 1 => ok
drain db 1 => ok
pick 4 => web-2 new
pick 0 => web-2 new
pick 2 => db kept
flows => 0 web-2, 1 db, 2 db, 3 db, 4 web-2, 10 web-2, 9999999 web-2
export => flows 1 7; 0000000000000000 web-2 40; 0000000000000001 db 40; 0000000000000002 db 40; 0000000000000003 db 40; 0000000000000004 web-2 40; 000000000000000a web-2 20; 000000000098967f web-2 20; sum f353e23d
look web-2 0 => same
look web-2 0 => turned
up => db web-1
flows => 1 db, 2 db, 3 db
export => flows 2 3; 0000000000000001 db 40; 0000000000000002 db 40; 0000000000000003 db 40; sum 084db163
tick 9999999 => ok
drain db 0 => ok
pick 1 => db new
pick 5 => db new
export => flows 3 4; 0000000000000001 db 10000039; 0000000000000002 db 40; 0000000000000003 db 40; 0000000000000005 db 10000039; sum 85d9bd9a
`)
}

// P130: two looks to fall and two to rise, one behind the other; those that are down are no hosts of picks, but of tables, rings, rivals and moves.
func TestLooks(t *testing.T) {
	wantRows(t, `
hosts x y => ok
look x 1 => same
look x 0 => same
look x 1 => same
look x 0 => same
up => x y
look x 0 => turned
up => y
look x 0 => same
table 2 => x y
moves 2 x y => 0
look y 0 => same
look y 0 => turned
up => nothing
pick 1 => levelhand: none
look x 1 => same
look x 0 => same
look x 1 => same
up => nothing
look x 1 => turned
up => x
pick 1 => x new
look y 1 => same
look y 1 => turned
up => x y
pick 1 => x kept
`)
	before := mustRun(t, []string{"hosts x y", "table 31", "ring 3 8", "rival 8"})
	after := mustRun(t, []string{"hosts x y", "look x 0", "look x 0", "drain y 1", "table 31", "ring 3 8", "rival 8"})
	if !slices.Equal(before[1:], after[4:]) {
		t.Errorf("%q, and with one down and one drained %q", before[1:], after[4:])
	}
}

// P130: a host that is drained has no new keys, keeps those that it has, and is still up.
func TestDrains(t *testing.T) {
	wantRows(t, `
hosts x => ok
pick 1 => x new
drain x 1 => ok
drain x 1 => ok
up => x
pick 1 => x kept
pick 2 => levelhand: none
flows => 1 x
drain x 0 => ok
drain x 0 => ok
pick 2 => x new
flows => 1 x, 2 x
`)
}

// P130: ticks come on top of each other; a flow stays twenty of them; none is no tick.
func TestTicks(t *testing.T) {
	wantRows(t, `
hosts x => ok
pick 5 => x new
tick 0 => ok
pick 5 => x kept
tick 9 => ok
tick 10 => ok
pick 5 => x kept
tick 19 => ok
pick 5 => x kept
tick 20 => ok
pick 5 => x new
export => flows 1 1; 0000000000000005 x 78; sum ce457347
`)
}

// P130: the ticks of a whole script are all counted, and no flow is beyond them.
func TestGreatestTick(t *testing.T) {
	lines := []string{"hosts x"}
	for len(lines) < api.MaxLines-2 {
		lines = append(lines, "tick 9999999")
	}
	lines = append(lines, "pick 1", "export")
	answers := mustRun(t, lines)
	want := "flows 1 1; 0000000000000001 x 969999923; sum 5fdff3a6"
	if got := answers[len(answers)-2:]; got[0] != "x new" || got[1] != want {
		t.Errorf("%q, wanted x new and %q", got, want)
	}
}

// P130: an exported text can be read, when its line breaks stand there again; its epoch is one more each time.
func TestExportsAreRead(t *testing.T) {
	lines := []string{"hosts a b c"}
	for key := range 40 {
		lines = append(lines, "pick "+strconv.Itoa(key*977), "export")
	}
	lines = append(lines, "flows")
	answers := mustRun(t, lines)
	for i := 2; i < len(answers)-1; i += 2 {
		epoch, l, err := carry.Read(strings.ReplaceAll(answers[i], "; ", "\n") + "\n")
		if err != nil || epoch != i/2 || len(l) != i/2 {
			t.Fatalf("%q: epoch %d, %d flows, %v", answers[i], epoch, len(l), err)
		}
	}
	if list := strings.Split(answers[len(answers)-1], ", "); len(list) != 40 || list[39][:6] != "38103 " {
		t.Errorf("flows %q", list)
	}
}

// P130: with hosts all begins anew: the tick, looks, drains, flows and the epoch, also with the same ones.
func TestHostsBeginAnew(t *testing.T) {
	wantRows(t, `
hosts x y => ok
tick 50 => ok
pick 1 => x new
look x 0 => same
drain y 1 => ok
export => flows 1 1; 0000000000000001 x 70; sum f2d3dd5c
hosts y x => ok
flows => nothing
up => y x
look x 0 => same
drain x 1 => ok
pick 3 => y new
export => flows 1 1; 0000000000000003 y 20; sum 5ee7272e
look x 0 => turned
hosts y x => ok
up => y x
hosts z => ok
up => z
look x 1 => levelhand: none
table 3 => z z z
`)
}

// P130, P131: hosts that are none leave all as it was.
func TestWrongHostsChangeNothing(t *testing.T) {
	for wrong, want := range map[string]string{
		"hosts z z":                       existError,
		"hosts z y x y":                   existError,
		"hosts a b c d e f g h i j k l m": boundError,
		"hosts a b c d e f g h i j k l a": boundError,
		"hosts":                           textError,
		"hosts Z":                         textError,
		"hosts z Z":                       textError,
		"hosts z ":                        textError,
	} {
		wantRows(t, `
hosts x y => ok
tick 5 => ok
pick 1 => x new
look y 0 => same
drain x 1 => ok
export => flows 1 1; 0000000000000001 x 25; sum 896febf2
`+wrong+` => `+want+`
flows => 1 x
look y 0 => turned
up => x
pick 2 => levelhand: none
pick 1 => x kept
export => flows 2 1; 0000000000000001 x 25; sum 7b38060a
`)
		if got := answerTo(t, "up", wrong); got != noneError {
			t.Errorf("up behind %q: %q", wrong, got)
		}
	}
}

// P130: as many hosts as a list may have, and names as long as they may be.
func TestMostHosts(t *testing.T) {
	wantRows(t, `
hosts a b c d e f g h i j k l => ok
up => a b c d e f g h i j k l
moves 503 a b c d e f g h i j k l => 0
moves 503 abcdefghijkl => 503
hosts abcdefghijkl a-1 z9-- => ok
up => abcdefghijkl a-1 z9--
look abcdefghijkl 1 => same
`)
}
