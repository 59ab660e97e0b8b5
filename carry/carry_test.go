package carry

import (
	"errors"
	"fmt"
	"hash/crc32"
	"math"
	"math/rand"
	"regexp"
	"slices"
	"strconv"
	"strings"
	"sync"
	"testing"

	"levelhand/api"
	"levelhand/mix"
)

const lastUntil = api.MaxTick + api.MaxTime

// seal lines with their sum, by the library's own.
func seal(body string) string {
	return body + fmt.Sprintf("sum %08x\n", crc32.ChecksumIEEE([]byte(body)))
}

// many flows, of keys from 0 on.
func many(n int) []api.Flow {
	l := make([]api.Flow, n)
	for i := range l {
		l[i] = api.Flow{Key: uint64(i), Host: "a", Until: i}
	}
	return l
}

// manyLines: those of many flows, without the sum.
func manyLines(n int) string {
	body := fmt.Sprintf("flows 3 %d\n", n)
	for i := range n {
		body += fmt.Sprintf("%016x a %d\n", i, i)
	}
	return body
}

func wantText(t *testing.T, epoch int, l []api.Flow, want string) {
	t.Helper()
	if s, err := Text(epoch, l); s != want || err != nil {
		t.Errorf("Text(%d, %v): %q, %v, wanted %q", epoch, l, s, err, want)
	}
}

func wantRead(t *testing.T, s string, epoch int, l []api.Flow) {
	t.Helper()
	if n, got, err := Read(s); n != epoch || !slices.Equal(got, l) || err != nil {
		t.Errorf("Read(%q): %d, %v, %v, wanted %d, %v", s, n, got, err, epoch, l)
	}
}

// wantErr: at is the place of an *api.Fault, -1 asks for the error bare.
func wantErr(t *testing.T, what string, err, want error, at int) {
	t.Helper()
	if at < 0 {
		if err != want {
			t.Errorf("%s: %#v, wanted %v, bare", what, err, want)
		}
		return
	}
	var f *api.Fault
	if !errors.As(err, &f) || f.Err != want || f.At != at {
		t.Errorf("%s: %#v, wanted %v at %d", what, err, want, at)
	}
}

func wantNoText(t *testing.T, epoch int, l []api.Flow, want error, at int) {
	t.Helper()
	s, err := Text(epoch, l)
	if s != "" {
		t.Errorf("Text(%d, %v): %q, beside %v", epoch, l, s, err)
	}
	wantErr(t, fmt.Sprintf("Text(%d, %v)", epoch, l), err, want, at)
}

func wantNoRead(t *testing.T, s string, want error, at int) {
	t.Helper()
	epoch, l, err := Read(s)
	if epoch != 0 || len(l) != 0 {
		t.Errorf("Read(%q): %d, %v, beside %v", s, epoch, l, err)
	}
	wantErr(t, fmt.Sprintf("Read(%q)", s), err, want, at)
}

func wrongNames() []string {
	return []string{"", "B", "a.b", "abcdefghijklm", "\xff", "é", "a\tb", "a\r", "a\x00", "a_b", "0", "-a"}
}

// P90, P91: texts written out whole, with sums that were not made here.
func TestWrittenOut(t *testing.T) {
	for _, c := range []struct {
		epoch int
		l     []api.Flow
		s     string
	}{
		{0, nil, "flows 0 0\nsum 1ea20384\n"},
		{0, []api.Flow{}, "flows 0 0\nsum 1ea20384\n"},
		{12, []api.Flow{{Key: 255, Host: "b", Until: 7}, {Key: 1 << 63, Host: "a-1", Until: lastUntil}}, "flows 12 2\n00000000000000ff b 7\n8000000000000000 a-1 1099511628776\nsum 5aa1bc6c\n"},
	} {
		wantText(t, c.epoch, c.l, c.s)
		wantRead(t, c.s, c.epoch, c.l)
	}
}

// P90: the check value that this remainder is known by, its empty start, and texts that leave zeros ahead.
func TestSum(t *testing.T) {
	if n := sumOf("123456789"); n != 0xCBF43926 {
		t.Errorf("%08x", n)
	}
	if n := sumOf(""); n != 0 {
		t.Errorf("%08x", n)
	}
	zeros := 0
	for epoch := range 400 {
		body := fmt.Sprintf("flows %d 0\n", epoch)
		wantText(t, epoch, nil, seal(body))
		wantRead(t, seal(body), epoch, nil)
		if crc32.ChecksumIEEE([]byte(body)) < 1<<28 {
			zeros++
		}
	}
	if zeros == 0 {
		t.Error("no sum began with a zero")
	}
}

// P90, P91: flows stay in the order in which they are given, by key or not.
func TestOrderStays(t *testing.T) {
	l := []api.Flow{{Key: 3, Host: "c", Until: 1}, {Key: 1, Host: "a", Until: 9}, {Key: 2, Host: "c", Until: 1}}
	s := seal("flows 5 3\n0000000000000003 c 1\n0000000000000001 a 9\n0000000000000002 c 1\n")
	wantText(t, 5, l, s)
	wantRead(t, s, 5, l)
}

// P90, P91: the edges that are still in, each to and fro.
func TestEdgesWithin(t *testing.T) {
	for _, epoch := range []int{0, 1, 9, 10, api.MaxTick - 1, api.MaxTick} {
		s := seal("flows " + strconv.Itoa(epoch) + " 0\n")
		wantText(t, epoch, nil, s)
		wantRead(t, s, epoch, nil)
	}
	for _, until := range []int{0, 1, 10, api.MaxTick, lastUntil - 1, lastUntil} {
		l := []api.Flow{{Host: "a", Until: until}}
		s := seal("flows 0 1\n0000000000000000 a " + strconv.Itoa(until) + "\n")
		wantText(t, 0, l, s)
		wantRead(t, s, 0, l)
	}
	for key, digits := range map[uint64]string{0: "0000000000000000", 1: "0000000000000001", 0x0123456789ABCDEF: "0123456789abcdef", math.MaxUint64: "ffffffffffffffff"} {
		l := []api.Flow{{Key: key, Host: "a"}}
		s := seal("flows 0 1\n" + digits + " a 0\n")
		wantText(t, 0, l, s)
		wantRead(t, s, 0, l)
	}
	for _, host := range []string{"a", "z", "a-", "b0", "sum", "flows", "abcdefghijkl"} {
		l := []api.Flow{{Host: host}}
		s := seal("flows 0 1\n0000000000000000 " + host + " 0\n")
		wantText(t, 0, l, s)
		wantRead(t, s, 0, l)
	}
}

// P90, P91: as many flows as there may be, and one more.
func TestMostFlows(t *testing.T) {
	for _, n := range []int{api.MaxFlows - 1, api.MaxFlows} {
		wantText(t, 3, many(n), seal(manyLines(n)))
		wantRead(t, seal(manyLines(n)), 3, many(n))
	}
	for _, n := range []int{api.MaxFlows + 1, 2 * api.MaxFlows} {
		wantNoText(t, 3, many(n), api.ErrBound, -1)
		wantNoRead(t, seal(manyLines(n)), api.ErrBound, -1)
	}
	wantNoText(t, 0, make([]api.Flow, api.MaxFlows+1), api.ErrBound, -1) // ahead of what is wrong with its flows
}

// P90
func TestTextOfWrongEpochs(t *testing.T) {
	for _, epoch := range []int{-1, api.MaxTick + 1, math.MinInt, math.MaxInt} {
		wantNoText(t, epoch, nil, api.ErrBound, -1)
		wantNoText(t, epoch, many(2), api.ErrBound, -1)
		wantNoText(t, epoch, []api.Flow{{Host: "B"}}, api.ErrBound, -1)
	}
}

// P90: what is wrong with a flow, in the order in which the errors are named; the first flow that is wrong is told.
func TestTextOfWrongFlows(t *testing.T) {
	good := api.Flow{Key: 1, Host: "a", Until: 5}
	for _, host := range wrongNames() {
		wantNoText(t, 0, []api.Flow{{Key: 2, Host: host}}, api.ErrName, 0)
		wantNoText(t, 0, []api.Flow{good, {Key: 2, Host: host, Until: 5}}, api.ErrName, 1)
		wantNoText(t, 0, []api.Flow{good, {Key: 1, Host: host, Until: -1}}, api.ErrName, 1)
	}
	for _, host := range []string{"a b", "a\nb", " a", "a "} {
		wantNoText(t, 0, []api.Flow{good, {Key: 2, Host: host}}, api.ErrName, 1)
	}
	for _, until := range []int{-1, lastUntil + 1, math.MinInt, math.MaxInt} {
		wantNoText(t, 0, []api.Flow{{Key: 2, Host: "a", Until: until}}, api.ErrBound, 0)
		wantNoText(t, 0, []api.Flow{good, {Key: 1, Host: "a", Until: until}}, api.ErrBound, 1)
	}
	wantNoText(t, 0, []api.Flow{good, good}, api.ErrExist, 1)
	wantNoText(t, 0, []api.Flow{good, {Key: 2, Host: "a"}, {Key: 1, Host: "b", Until: 9}, {Host: "B"}}, api.ErrExist, 2)
	wantNoText(t, 0, []api.Flow{{Key: 1, Host: "a", Until: -1}, {Host: "B"}, good}, api.ErrBound, 0)
	wantNoText(t, 0, append(many(api.MaxFlows-1), good), api.ErrExist, api.MaxFlows-1)
	wantNoText(t, 0, []api.Flow{{}, {Host: "a"}}, api.ErrName, 0)
}

// P91: the same of flows that are read.
func TestReadOfWrongFlows(t *testing.T) {
	two := func(line string) string { return seal("flows 1 2\n0000000000000001 a 5\n" + line + "\n") }
	for _, host := range wrongNames()[1:] {
		wantNoRead(t, two("0000000000000002 "+host+" 5"), api.ErrName, 1)
		wantNoRead(t, two("0000000000000001 "+host+" 99999999999999"), api.ErrName, 1)
	}
	for _, until := range []int{lastUntil + 1, 10000000000000, 99999999999999} {
		wantNoRead(t, two("0000000000000002 a "+strconv.Itoa(until)), api.ErrBound, 1)
		wantNoRead(t, two("0000000000000001 a "+strconv.Itoa(until)), api.ErrBound, 1)
	}
	wantNoRead(t, two("0000000000000001 b 6"), api.ErrExist, 1)
	wantNoRead(t, seal("flows 1 3\n0000000000000001 a 5\n0000000000000001 a 5\n0000000000000002 B 5\n"), api.ErrExist, 1)
	wantNoRead(t, seal("flows 1 2\n0000000000000001 a 99999999999999\n0000000000000002 B 5\n"), api.ErrBound, 0)
	for _, epoch := range []int{api.MaxTick + 1, 99999999999999} {
		wantNoRead(t, seal("flows "+strconv.Itoa(epoch)+" 0\n"), api.ErrBound, -1)
		wantNoRead(t, seal("flows "+strconv.Itoa(epoch)+" 1\n0000000000000001 B 5\n"), api.ErrBound, -1)
	}
}

// wrongNumbers: in decimal digits, and yet no number that Text would write.
func wrongNumbers() []string {
	return []string{"", "00", "01", "-1", "-0", "+1", "1.", "1e1", "0x1", "1_0", "a", "١", "1\t", "1\r", "100000000000000", "000000000000001", "99999999999999999999", strings.Repeat("9", 1000)}
}

// P91: lines that are none, each with its right sum.
func TestReadOfNoLines(t *testing.T) {
	good := "0000000000000001 a 5\n"
	bodies := []string{
		"", "\n", "what\n", "flows\n", "flows 1\n", "flows 1 0", "flows 1 0 \n", " flows 1 0\n", "flows  1 0\n", "flows 1  0\n", "flows 1 0 0\n", "Flows 1 0\n", "flow 1 0\n", "flows\t1 0\n",
		"flows 1 0\n\n", "\nflows 1 0\n", "flows 1 0\r\n", "flows 1 0\n" + good, "flows 1 1\n", "flows 1 2\n" + good, "flows 1 1\n" + good + good, "flows 1 1\n" + good + "\n", "flows 1 1\n\n" + good,
		"flows 1 99999999999999\n", "flows 1 1\n" + strings.TrimSuffix(good, "\n"), seal("flows 1 0\n"), seal("flows 1 1\n"), "flows 1 0\nflows 1 0\n", good, good + "flows 1 1\n",
	}
	for _, number := range wrongNumbers() {
		bodies = append(bodies, "flows "+number+" 0\n", "flows "+number+" 1\n"+good, "flows 1 "+number+"\n", "flows 1 "+number+"\n"+good, "flows 1 1\n0000000000000001 a "+number+"\n")
	}
	for _, line := range []string{
		"", "a", "0000000000000001", "0000000000000001 a", "0000000000000001 5", "a 5", "0000000000000001 a 5 ", " 0000000000000001 a 5", "0000000000000001  a 5", "0000000000000001 a  5", "0000000000000001  5", "0000000000000001 a b 5", "0000000000000001 a 5 5", "0000000000000001\ta\t5",
		"1 a 5", "000000000000001 a 5", "00000000000000001 a 5", "000000000000000A a 5", "000000000000000g a 5", "+000000000000001 a 5", "-000000000000001 a 5", "0x00000000000001 a 5", "0000_0000_0000_1 a 5", " a 5", "sum 00000000",
	} {
		bodies = append(bodies, "flows 1 1\n"+line+"\n", "flows 1 2\n"+good+line+"\n", "flows 1 2\n"+line+"\n"+good)
	}
	for _, body := range bodies {
		wantNoRead(t, seal(body), api.ErrText, -1)
	}
}

// P91: sums that are no line of a sum.
func TestReadOfNoSum(t *testing.T) {
	body := "flows 0 0\n" // its sum: 1ea20384
	for _, end := range []string{
		"", "\n", "sum\n", "sum \n", "1ea20384\n", "sum 1ea20384", "sum 1ea20384\r", "sum 1ea20384\r\n", "sum 1ea20384 \n", "sum 1ea20384\n\n", "sum 1ea20384\nx", "sum  1ea20384\n", " sum 1ea20384\n", "sum\t1ea20384\n", "Sum 1ea20384\n", "sun 1ea20384\n",
		"sum 1EA20384\n", "sum 1Ea20384\n", "sum 1ea2038\n", "sum 01ea20384\n", "sum 1ea2038g\n", "sum +ea20384\n", "sum -ea20384\n", "sum 0x1ea203\n", "sum 1ea2_384\n", "sum 1ea20384 1ea20384\n", "sum 1ea20384\nsum 1ea20384\n", "sum 1ea20384\nflows 0 0\n",
	} {
		wantNoRead(t, body+end, api.ErrText, -1)
	}
	wantNoRead(t, "sum 00000000\n", api.ErrText, -1) // the right sum, of nothing
	wantRead(t, body+"sum 1ea20384\n", 0, nil)
}

// P91: a sum of another text; it is told behind the form of the lines, and ahead of what they say.
func TestReadOfWrongSums(t *testing.T) {
	for _, body := range []string{"flows 0 0\n", "flows 1 1\n0000000000000001 a 5\n"} {
		right := crc32.ChecksumIEEE([]byte(body))
		for bit := range 32 {
			wantNoRead(t, body+fmt.Sprintf("sum %08x\n", right^1<<bit), api.ErrSum, -1)
		}
		wantNoRead(t, body+fmt.Sprintf("sum %08x\n", ^right), api.ErrSum, -1)
	}
	wrong := "sum 00000000\n"
	wantNoRead(t, "flows 1 1\n"+wrong, api.ErrText, -1)
	wantNoRead(t, "flows 01 0\n"+wrong, api.ErrText, -1)
	wantNoRead(t, "flows 1 1\n0000000000000001 a -5\n"+wrong, api.ErrText, -1)
	wantNoRead(t, "flows 1 1\n0000000000000001 B 5\n"+wrong, api.ErrSum, -1)
	wantNoRead(t, "flows 1 1\n0000000000000001 a 99999999999999\n"+wrong, api.ErrSum, -1)
	wantNoRead(t, "flows 1 2\n0000000000000001 a 5\n0000000000000001 a 5\n"+wrong, api.ErrSum, -1)
	wantNoRead(t, "flows 99999999999999 0\n"+wrong, api.ErrSum, -1)
	wantNoRead(t, manyLines(api.MaxFlows+1)+wrong, api.ErrSum, -1)
}

// P91: a text of just so many bytes is still read, one of more is not, whatever it says.
func TestMostBytes(t *testing.T) {
	long := func(size int) string {
		before, after := "flows 1 1\n0000000000000001 ", " 5\n"
		host := strings.Repeat("a", size-len(seal(before+after)))
		return seal(before + host + after)
	}
	for _, size := range []int{api.MaxText - 1, api.MaxText} {
		s := long(size)
		if len(s) != size {
			t.Fatal(len(s))
		}
		wantNoRead(t, s, api.ErrName, 0)
		wantNoRead(t, strings.Repeat("x", size), api.ErrText, -1)
		wantNoRead(t, strings.Repeat("\n", size), api.ErrText, -1)
	}
	for _, size := range []int{api.MaxText + 1, 10 * api.MaxText} {
		wantNoRead(t, long(size), api.ErrBound, -1)
		wantNoRead(t, strings.Repeat("x", size), api.ErrBound, -1)
	}
}

// some flows that Text takes, of any size and order.
func some(r *rand.Rand) (int, []api.Flow) {
	const letters = "abcdefghijklmnopqrstuvwxyz0123456789-"
	var l []api.Flow
	for range r.Intn(12) {
		name := make([]byte, 1+r.Intn(api.MaxName))
		for i := range name {
			name[i] = letters[r.Intn(len(letters))]
		}
		flow := api.Flow{Key: r.Uint64() >> r.Intn(64), Host: string(name), Until: r.Intn(lastUntil+1) >> r.Intn(42)}
		if mix.Check([]string{flow.Host}) == nil && !slices.ContainsFunc(l, func(other api.Flow) bool { return other.Key == flow.Key }) {
			l = append(l, flow)
		}
	}
	return r.Intn(api.MaxTick+1) >> r.Intn(42), l
}

// P92: what is written is read, and nothing that is cut off at its end.
func TestWrittenIsRead(t *testing.T) {
	r := rand.New(rand.NewSource(92))
	for range 300 {
		epoch, l := some(r)
		s, err := Text(epoch, l)
		if err != nil {
			t.Fatalf("Text(%d, %v): %v", epoch, l, err)
		}
		wantRead(t, s, epoch, l)
		for k := range len(s) {
			wantNoRead(t, s[:k], api.ErrText, -1)
		}
	}
}

// P92: the greatest text that there is: long names, great numbers. It has room in what Read takes.
func TestGreatestText(t *testing.T) {
	var l []api.Flow
	for i := range uint64(api.MaxFlows) {
		l = append(l, api.Flow{Key: math.MaxUint64 - i, Host: "abcdefghijkl", Until: lastUntil})
	}
	s, err := Text(api.MaxTick, l)
	if err != nil || len(s) > api.MaxText {
		t.Fatal(len(s), err)
	}
	wantRead(t, s, api.MaxTick, l)
	for k := range len(s) {
		wantNoRead(t, s[:k], api.ErrText, -1)
	}
}

// P91, P92: a bit that turned, two bytes that changed places, a byte too many or too few: none of them is what Text makes.
func TestSpoilt(t *testing.T) {
	r := rand.New(rand.NewSource(91))
	for range 60 {
		s, err := Text(some(r))
		if err != nil {
			t.Fatal(err)
		}
		var spoilt []string
		for k := range len(s) {
			for bit := range 8 {
				spoilt = append(spoilt, s[:k]+string([]byte{s[k] ^ 1<<bit})+s[k+1:])
			}
			spoilt = append(spoilt, s[:k]+s[k+1:], s[:k]+"0"+s[k:], s[:k]+" "+s[k:], s[:k]+"\n"+s[k:])
			if k > 0 {
				spoilt = append(spoilt, s[:k-1]+string([]byte{s[k], s[k-1]})+s[k+1:])
			}
		}
		for _, x := range append(spoilt, s+"\n", s+"x", s+s) {
			if epoch, l, err := Read(x); x != s && err == nil {
				t.Fatalf("%q: %d, %v", x, epoch, l)
			}
		}
	}
}

// P4
func TestNothingIsShared(t *testing.T) {
	memory := append(many(3), api.Flow{Key: 1, Host: "B", Until: -1})
	kept := slices.Clone(memory)
	s, err := Text(3, memory[:3])
	if err != nil || s != seal(manyLines(3)) {
		t.Fatalf("%q, %v", s, err)
	}
	if !slices.Equal(memory, kept) {
		t.Error("Text wrote into what it was given:", memory)
	}
	memory[0].Host = "z"
	wantRead(t, s, 3, kept[:3])
	_, first, _ := Read(s)
	_, second, _ := Read(s)
	first[0] = api.Flow{Key: 77}
	_ = append(first[:1], api.Flow{Key: 78})
	if !slices.Equal(second, kept[:3]) {
		t.Error("two answers share their memory:", second)
	}
}

// P2: side by side, and again and again, the same.
func TestSideBySide(t *testing.T) {
	l := many(api.MaxFlows)
	want := seal(manyLines(api.MaxFlows))
	var all sync.WaitGroup
	for range 8 {
		all.Go(func() {
			for range 5 {
				wantText(t, 3, l, want)
				wantRead(t, want, 3, l)
				wantNoRead(t, want[1:], api.ErrText, -1)
				wantNoText(t, 3, append(many(2), l...), api.ErrBound, -1)
			}
		})
	}
	all.Wait()
}

const number = `(0|[1-9][0-9]{0,13})`

var (
	whole = regexp.MustCompile(`\A(flows ` + number + ` ` + number + `\n((?s:.*)))sum ([0-9a-f]{8})\n\z`)
	one   = regexp.MustCompile(`\A([0-9a-f]{16}) ([^ \n]+) ` + number + `\n\z`)
	name  = regexp.MustCompile(`\A[a-z][a-z0-9-]{0,11}\z`)
)

// byPattern reads a text by patterns, and answers what Read should: want is its error, at the place (-1: bare).
func byPattern(s string) (epoch int, l []api.Flow, want error, at int) {
	if len(s) > 20000 {
		return 0, nil, api.ErrBound, -1
	}
	parts := whole.FindStringSubmatch(s)
	if parts == nil {
		return 0, nil, api.ErrText, -1
	}
	lines := strings.SplitAfter(parts[4], "\n")
	if lines[len(lines)-1] != "" || strconv.Itoa(len(lines)-1) != parts[3] {
		return 0, nil, api.ErrText, -1
	}
	for _, line := range lines[:len(lines)-1] {
		words := one.FindStringSubmatch(line)
		if words == nil {
			return 0, nil, api.ErrText, -1
		}
		key, _ := strconv.ParseUint(words[1], 16, 64)
		until, _ := strconv.Atoi(words[3])
		l = append(l, api.Flow{Key: key, Host: words[2], Until: until})
	}
	if fmt.Sprintf("%08x", crc32.ChecksumIEEE([]byte(parts[1]))) != parts[5] {
		return 0, nil, api.ErrSum, -1
	}
	epoch, _ = strconv.Atoi(parts[2])
	if want, at = wrong(epoch, l); want != nil {
		return 0, nil, want, at
	}
	return epoch, l, nil, -1
}

// wrong tells what is wrong with what is carried, in other words than the program's.
func wrong(epoch int, l []api.Flow) (error, int) {
	if epoch < 0 || epoch > 1<<40 || len(l) > 200 {
		return api.ErrBound, -1
	}
	for at, flow := range l {
		switch {
		case !name.MatchString(flow.Host):
			return api.ErrName, at
		case flow.Until < 0 || flow.Until > 1<<40+1000:
			return api.ErrBound, at
		}
		for _, other := range l[:at] {
			if other.Key == flow.Key {
				return api.ErrExist, at
			}
		}
	}
	return nil, -1
}

// holdToPattern: Read answers what the patterns do, and what it takes is what Text makes, just so.
func holdToPattern(t *testing.T, s string) {
	t.Helper()
	epoch, l, want, at := byPattern(s)
	if want != nil {
		wantNoRead(t, s, want, at)
		return
	}
	wantRead(t, s, epoch, l)
	wantText(t, epoch, l, s)
}

// P90, P91: lines put together by chance out of words that are nearly right, sealed and not.
func TestByPattern(t *testing.T) {
	r := rand.New(rand.NewSource(90))
	pick := func(l ...string) string { return l[r.Intn(len(l))] }
	tick := func() string {
		return pick("0", "1", "7", "1099511627776", "1099511627777", "1099511628776", "1099511628777", "99999999999999", "100000000000000", "07", "-7", "x")
	}
	told := map[error]int{}
	for range 20000 {
		n := r.Intn(4)
		body := pick("flows", "flows", "flows", "flows", "flow") + " " + pick(tick(), "12") + " " + pick(strconv.Itoa(n), strconv.Itoa(n), strconv.Itoa(n), "1") + "\n"
		for range n {
			body += pick("0000000000000001", "0000000000000002", "00000000000000ff", "ffffffffffffffff", "0123456789abcdef", "000000000000000A", "1") + " " + pick("a", "b", "a-1", "abcdefghijkl", "abcdefghijklm", "B", "") + " " + pick(tick(), "3", "4") + pick("\n", "\n", "\n", "\n", "\n", " \n", "")
		}
		s := seal(body)
		if r.Intn(10) == 0 {
			s = body + "sum 00000000\n"
		}
		_, _, want, _ := byPattern(s)
		told[want]++
		holdToPattern(t, s)
	}
	for _, e := range []error{nil, api.ErrText, api.ErrSum, api.ErrBound, api.ErrName, api.ErrExist} {
		if told[e] < 20 {
			t.Errorf("%v: only %d times", e, told[e])
		}
	}
}

// P1, P90 to P92: any bytes, bare and sealed; any flow.
func FuzzCarry(f *testing.F) {
	for _, s := range []string{"", "flows 1 0\n", "flows 1 1\n0000000000000001 a 5\n", "flows 1 2\n0000000000000001 a 5\n0000000000000001 b 6\n", "flows 99999999999999 0\n", "flows 1 1\n0000000000000001 B 5\n", "sum 00000000\n"} {
		f.Add(s, 1, uint64(2), "a", 5)
		f.Add(seal(s), -1, uint64(0), "B", -1)
	}
	f.Fuzz(func(t *testing.T, s string, epoch int, key uint64, host string, until int) {
		holdToPattern(t, s)
		holdToPattern(t, seal(s))
		l := []api.Flow{{Key: key, Host: host, Until: until}}
		if want, at := wrong(epoch, l); want != nil {
			wantNoText(t, epoch, l, want, at)
			return
		}
		text, err := Text(epoch, l)
		if err != nil {
			t.Fatal(err)
		}
		holdToPattern(t, text)
		wantRead(t, text, epoch, l)
	})
}
