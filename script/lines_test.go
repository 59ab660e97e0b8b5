package script

import (
	"slices"
	"strings"
	"testing"

	"levelhand/api"
)

// withWord: the line with another word at a place.
func withWord(line string, at int, word string) string {
	list := strings.Split(line, " ")
	list[at] = word
	return strings.Join(list, " ")
}

// placesOf words behind the name: those of numbers, or those of hosts.
func placesOf(line string, numbers bool) []int {
	var places []int
	for i, word := range strings.Split(line, " ")[1:] {
		if (word[0] <= '9') == numbers {
			places = append(places, i+1)
		}
	}
	return places
}

// P130: no lines, and as many as there may be; one more is an error, bare, and no line of them is answered.
func TestCountOfLines(t *testing.T) {
	for _, lines := range [][]string{nil, {}} {
		if got, err := Run(lines); len(got) != 0 || err != nil {
			t.Errorf("no lines: %q, %v", got, err)
		}
	}
	lines := []string{"hosts x"}
	for len(lines) < api.MaxLines {
		lines = append(lines, "up")
	}
	answers := mustRun(t, lines)
	if len(answers) != 100 || answers[99] != "x" {
		t.Errorf("%d answers, the last one %q", len(answers), answers[len(answers)-1])
	}
	for _, more := range []int{1, 2, 1000} {
		if got, err := Run(append(slices.Clone(lines), make([]string, more)...)); len(got) != 0 || err != api.ErrBound {
			t.Errorf("%d lines more: %d answers, %v", more, len(got), err)
		}
	}
}

// P130, P131: what is no number, at each place of one.
func TestWrongNumbers(t *testing.T) {
	wrong := []string{
		"", "00", "01", "007", "-1", "-0", "+1", "1.0", "1e1", "0x1", "1_0", "x", "a", "1a", "#",
		"10000000", "00000001", "12345678", "99999999999999999999999999", "1\n", "\t1", "１", "١",
	}
	for _, line := range allCommands {
		for _, at := range placesOf(line, true) {
			for _, word := range wrong {
				wantText(t, withWord(line, at, word))
			}
		}
	}
}

// P130: numbers from 0 to those of seven digits are some, at each place of one, but for those that say yes or no.
func TestRightNumbers(t *testing.T) {
	places := 0
	for _, line := range allCommands {
		flag := strings.HasPrefix(line, "look") || strings.HasPrefix(line, "drain")
		for _, at := range placesOf(line, true) {
			places++
			wantCommand(t, withWord(line, at, "0"))
			wantCommand(t, withWord(line, at, "1"))
			for _, word := range []string{"2", "9", "10", "1000000", "9999999"} {
				if changed := withWord(line, at, word); flag {
					wantText(t, changed)
				} else {
					wantCommand(t, changed)
				}
			}
		}
	}
	if places != 11 {
		t.Errorf("%d places of numbers", places)
	}
}

// P130, P131: what is no name, at each place of a host; a name that is none of the hosts is another thing.
func TestWrongNames(t *testing.T) {
	wrong := []string{
		"", "A", "aA", "1", "1a", "-", "-a", "a_b", "a.b", "a,b", "a\n", "\na", "a\tb", "a\x00", "ä", "\xff", "abcdefghijklm",
	}
	places := 0
	for _, line := range allCommands {
		for _, at := range placesOf(line, false) {
			places++
			for _, word := range wrong {
				wantText(t, withWord(line, at, word))
			}
			for _, word := range []string{"z", "a", "a-", "a1", "abcdefghijkl"} {
				wantCommand(t, withWord(line, at, word))
			}
		}
	}
	if places != 6 {
		t.Errorf("%d places of hosts", places)
	}
}

// P131: more than a list may have, one of them no name: the line is none, and nothing is told of the bound.
func TestWrongNameAmongTooMany(t *testing.T) {
	many := strings.Repeat(" a", 500)
	wantText(t, "hosts"+many+" A")
	wantText(t, "moves 7"+many+" A")
	wantRows(t, "hosts a => ok\nhosts"+many+" => "+boundError+"\nmoves 7"+many+" => "+boundError)
}

// P130, P131: one blank between words, none ahead, none behind, and nothing else that looks like one.
func TestBlanks(t *testing.T) {
	for _, line := range allCommands {
		wantCommand(t, line)
		for _, other := range []string{" " + line, line + " ", line + "  ", "\t" + line, line + "\t", line + "\n", line + "\r", line + "\u00a0"} {
			wantText(t, other)
		}
		for _, between := range []string{"  ", "\t", "\n", ",", ", ", "\u00a0", ""} {
			if strings.Contains(line, " ") {
				wantText(t, strings.Replace(line, " ", between, 1))
				wantText(t, strings.ReplaceAll(line, " ", between))
			}
		}
	}
}

// P130, P131: a word more or less, and words in another order.
func TestCountsOfWords(t *testing.T) {
	for _, line := range allCommands {
		list := strings.Split(line, " ")
		for many := 1; many < len(list); many++ {
			less := strings.Join(list[:many], " ")
			if less == "hosts a" || less == "moves 7 a" {
				wantCommand(t, less)
			} else {
				wantText(t, less)
			}
		}
		open := list[0] == "hosts" || list[0] == "moves"
		wantText(t, line+" 5")
		if !open {
			wantText(t, line+" c")
			wantText(t, line+" "+list[len(list)-1])
		}
	}
	for _, line := range []string{"look 0 a", "drain 1 a", "moves a 7", "moves a b", "moves 7 7 a", "hosts 7 a", "ring a 5", "look a b", "look 1 1"} {
		wantText(t, line)
	}
}

// P131: what begins with no command is none.
func TestWrongCommands(t *testing.T) {
	for _, line := range []string{"", " ", "  ", "what", "host a", "hostss a", "ho", "7", "a", "-", "#", "\x00", "\xff", "nothing", "ok", "import x", "expire", "up;", "up\nup"} {
		wantText(t, line)
	}
	for _, line := range allCommands {
		wantText(t, strings.ToUpper(line))
		wantText(t, strings.ToUpper(line[:1])+line[1:])
		wantText(t, line[1:])
		wantText(t, "x"+line)
	}
}

// P131: without hosts there are none to be asked for, but that a jump needs none. Whatever else is wrong with the line is not told then.
func TestNoHostsYet(t *testing.T) {
	lines := []string{"table 4", "table 0", "moves 4 a", "moves 7 a a", "ring 0 5", "ring 17 5", "look z 0", "drain z 1", "tick 0", "pick 0"}
	for _, line := range append(lines, allCommands...) {
		if strings.HasPrefix(line, "hosts") || strings.HasPrefix(line, "jump") {
			continue
		}
		if got := answerTo(t, line); got != noneError {
			t.Errorf("%q: %q, wanted %q", line, got, noneError)
		}
	}
	wantRows(t, `
jump 5 3 => 1
jump 5 0 => levelhand: bound
tick 30 => levelhand: none
hosts x => ok
pick 1 => x new
export => flows 1 1; 0000000000000001 x 20; sum f4181fb7
`)
}

// P131: the error's text, of each command that has one; of several, the first that the call tells.
func TestErrorsOfCommands(t *testing.T) {
	wantRows(t, `
hosts x y => ok
table 0 => levelhand: bound
table 1 => levelhand: bound
table 4 => levelhand: shape
table 501 => levelhand: shape
table 504 => levelhand: bound
table 509 => levelhand: bound
table 9999999 => levelhand: bound
moves 0 x => levelhand: bound
moves 4 x => levelhand: shape
moves 7 x y z y => levelhand: exist
moves 4 x x => levelhand: shape
moves 7 a b c d e f g h i j k l m => levelhand: bound
moves 4 a b c d e f g h i j k l m => levelhand: shape
ring 0 7 => levelhand: bound
ring 17 7 => levelhand: bound
ring 9999999 7 => levelhand: bound
jump 7 0 => levelhand: bound
jump 7 1048577 => levelhand: bound
look z 1 => levelhand: none
look z 0 => levelhand: none
drain z 1 => levelhand: none
drain z 0 => levelhand: none
hosts y x y => levelhand: exist
drain x 1 => ok
drain y 1 => ok
pick 1 => levelhand: none
flows => nothing
up => x y
`)
}

// P131: a command that tells an error changes nothing that a later one could tell.
func TestErrorsChangeNothing(t *testing.T) {
	rows := []string{
		"hosts x y", "pick 1", "tick 7", "look x 0", "drain y 1", "pick 2", "pick 3", "export", "flows", "up",
		"look x 0", "up", "drain y 0", "pick 3", "table 7", "tick 19", "pick 3", "export", "pick 1", "export",
	}
	want := mustRun(t, rows)
	for _, wrong := range []string{
		"", "what", "hosts", "hosts A", "hosts a a", "tick", "tick 08", "tick -5", "tick 10000000", "look z 0", "look x 2", "drain z 1", "drain x 2", "drain x",
		"pick", "pick 01", "pick 1 ", "table 4", "moves 7 z z", "ring 0 1", "jump 1 0", "export 1", "flows x", "up x",
	} {
		lines := make([]string, 0, 2*len(rows))
		for _, row := range rows {
			lines = append(lines, row, wrong)
		}
		for i, got := range mustRun(t, lines) {
			if i%2 == 0 && got != want[i/2] {
				t.Errorf("%q among %q: %q, wanted %q", rows[i/2], wrong, got, want[i/2])
			}
			if i%2 == 1 && !strings.HasPrefix(got, "levelhand: ") {
				t.Errorf("%q: %q", wrong, got)
			}
		}
	}
}
