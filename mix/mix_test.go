package mix

import (
	"errors"
	"hash/fnv"
	"math/bits"
	"regexp"
	"slices"
	"strings"
	"testing"

	"levelhand/api"
)

// names: as many good ones as asked for, each another one.
func names(many int) []string {
	var l []string
	for i := range many {
		l = append(l, "h"+strings.Repeat("-", i/10)+string(rune('0'+i%10)))
	}
	return l
}

// wantError: both calls answer the error, bare where at is below 0, else with its place; and Sorted gives no list with it.
func wantError(t *testing.T, l []string, at int, want error) {
	t.Helper()
	sorted, fromSorted := Sorted(l)
	if len(sorted) != 0 {
		t.Errorf("Sorted(%q) gives %q with an error", l, sorted)
	}
	for _, err := range []error{Check(l), fromSorted} {
		if at < 0 {
			if err != want {
				t.Errorf("%q: %v, wanted %v, bare", l, err, want)
			}
			continue
		}
		f, ok := err.(*api.Fault)
		if !ok || f.At != at || f.Err != want || !errors.Is(err, want) {
			t.Errorf("%q: %#v, wanted %v at %d", l, err, want, at)
		}
	}
}

func wantGood(t *testing.T, l []string) {
	t.Helper()
	if err := Check(l); err != nil {
		t.Errorf("Check(%q): %v", l, err)
	}
	if out, err := Sorted(l); err != nil || len(out) != len(l) {
		t.Errorf("Sorted(%q): %q, %v", l, out, err)
	}
}

// P10
func TestCheckTakesNames(t *testing.T) {
	for _, l := range [][]string{
		nil,
		{},
		{"a"},
		{"z", "a"},
		{"a", "a-", "a--", "a0", "a9", "aa"},
		{"abcdefghijkl", "z-0123456789"},
		names(api.MaxHosts),
	} {
		wantGood(t, l)
	}
}

// P10
func TestCheckEveryByte(t *testing.T) {
	for b := range 256 {
		first, later := string([]byte{byte(b)}), string([]byte{'a', byte(b), 'z'})
		letter := b >= 'a' && b <= 'z'
		digit := b >= '0' && b <= '9'
		if letter {
			wantGood(t, []string{first})
		} else {
			wantError(t, []string{first}, 0, api.ErrName)
		}
		if letter || digit || b == '-' {
			wantGood(t, []string{later})
		} else {
			wantError(t, []string{later}, 0, api.ErrName)
		}
	}
}

// P10
func TestCheckLengths(t *testing.T) {
	wantError(t, []string{""}, 0, api.ErrName)
	for n := 1; n <= api.MaxName; n++ {
		wantGood(t, []string{strings.Repeat("a", n)})
	}
	for _, n := range []int{api.MaxName + 1, api.MaxName * 2, 1 << 16} {
		wantError(t, []string{strings.Repeat("a", n)}, 0, api.ErrName)
	}
}

// P10
func TestCheckFaults(t *testing.T) {
	for _, c := range []struct {
		l   []string
		at  int
		err error
	}{
		{[]string{"a", "B"}, 1, api.ErrName},
		{[]string{"a", "b", " c"}, 2, api.ErrName},
		{[]string{"-a"}, 0, api.ErrName},
		{[]string{"0a"}, 0, api.ErrName},
		{[]string{"a_b"}, 0, api.ErrName},
		{[]string{"a.b"}, 0, api.ErrName},
		{[]string{"a\n"}, 0, api.ErrName},
		{[]string{"a\x00"}, 0, api.ErrName},
		{[]string{"é"}, 0, api.ErrName},
		{[]string{"a\xff"}, 0, api.ErrName},
		{[]string{"a", "a"}, 1, api.ErrExist},
		{[]string{"a", "b", "c", "b"}, 3, api.ErrExist},
		{[]string{"a", "b", "a", "b"}, 2, api.ErrExist},
		{[]string{"a", "a", "A"}, 1, api.ErrExist}, // the first one that is none counts, whatever it lacks
		{[]string{"a", "A", "a"}, 1, api.ErrName},
		{[]string{"", ""}, 0, api.ErrName},
	} {
		wantError(t, c.l, c.at, c.err)
	}
}

// P10
func TestCheckBoundComesFirst(t *testing.T) {
	wantError(t, names(api.MaxHosts+1), -1, api.ErrBound)
	wantError(t, make([]string, api.MaxHosts+1), -1, api.ErrBound)
	wantError(t, make([]string, 1000), -1, api.ErrBound)
	l := names(api.MaxHosts)
	l[api.MaxHosts-1] = ""
	wantError(t, l, api.MaxHosts-1, api.ErrName)
	l[api.MaxHosts-1] = l[0]
	wantError(t, l, api.MaxHosts-1, api.ErrExist)
}

// P10
func FuzzCheckName(f *testing.F) {
	form := regexp.MustCompile(`\A[a-z][a-z0-9-]{0,11}\z`)
	for _, s := range []string{"", "a", "a-1", "1a", "abcdefghijkl", "abcdefghijklm", "A", "a\xc3", "ß"} {
		f.Add(s)
	}
	f.Fuzz(func(t *testing.T, s string) {
		if form.MatchString(s) {
			wantGood(t, []string{s})
		} else {
			wantError(t, []string{s}, 0, api.ErrName)
		}
	})
}

// P10
func TestSortedRises(t *testing.T) {
	for _, c := range []struct{ l, want []string }{
		{nil, nil},
		{[]string{}, nil},
		{[]string{"b"}, []string{"b"}},
		{[]string{"a", "b", "c"}, []string{"a", "b", "c"}},
		{[]string{"c", "b", "a"}, []string{"a", "b", "c"}},
		{[]string{"h10", "h9", "h1", "h-1", "ha", "h"}, []string{"h", "h-1", "h1", "h10", "h9", "ha"}},
		{[]string{"ab", "b", "aa", "a", "a-z", "a0"}, []string{"a", "a-z", "a0", "aa", "ab", "b"}},
	} {
		got, err := Sorted(c.l)
		if err != nil || !slices.Equal(got, c.want) {
			t.Errorf("Sorted(%q) = %q, %v, wanted %q", c.l, got, err, c.want)
		}
	}
	l := names(api.MaxHosts)
	want, _ := Sorted(l)
	slices.Reverse(l)
	if got, err := Sorted(l); err != nil || !slices.Equal(got, want) || !slices.IsSorted(got) {
		t.Errorf("%q, %v, wanted %q", got, err, want)
	}
}

// P3, P4, P10
func TestSortedIsNewMemory(t *testing.T) {
	room := []string{"c", "a", "b", "A", "a"}
	l := room[:3]
	kept := slices.Clone(room)
	wantGood(t, l)
	one, _ := Sorted(l)
	two, _ := Sorted(l)
	if !slices.Equal(room, kept) {
		t.Errorf("what was handed over became %q", room)
	}
	for i := range one[:cap(one)] {
		one[:cap(one)][i] = "x"
	}
	if !slices.Equal(room, kept) || !slices.Equal(two, []string{"a", "b", "c"}) {
		t.Errorf("memory is shared: %q, %q", room, two)
	}
	two, _ = Sorted(l)
	l[0] = "z"
	if !slices.Equal(two, []string{"a", "b", "c"}) {
		t.Errorf("memory is shared: %q", two)
	}
}

// P11: numbers that are published for this turn, as the steps of a sequence from a seed.
func TestTurnKnownNumbers(t *testing.T) {
	for _, c := range []struct {
		seed uint64
		want []uint64
	}{
		{0, []uint64{0xE220A8397B1DCDAF, 0x6E789E6AA1B965F4, 0x06C45D188009454F, 0xF88BB8A8724C81EC, 0x1B39896A51A8749B}},
		{1234567, []uint64{6457827717110365317, 3203168211198807973, 9817491932198370423, 4593380528125082431, 16408922859458223821}},
	} {
		z := c.seed
		for i, want := range c.want {
			if got := Turn(z); got != want {
				t.Errorf("seed %d, step %d: %#x, wanted %#x", c.seed, i, got, want)
			}
			z += 0x9E3779B97F4A7C15
		}
	}
}

// P11
func TestOfGoesByBytes(t *testing.T) {
	for _, s := range []string{"", "a", "foobar", "host-1", "é", "\x00", "\xff\xfe", "a\x00b", strings.Repeat("long ", 4000)} {
		h := fnv.New64a()
		h.Write([]byte(s))
		for _, salt := range []uint64{0, 1, 2, 3, 1000, 1015, 1 << 63, ^uint64(0)} {
			if got, want := Of(s, salt), Turn(h.Sum64()^Turn(salt)); got != want {
				t.Errorf("Of(%.20q, %d) = %#x, wanted %#x", s, salt, got, want)
			}
		}
	}
}

// P11: whole numbers, so that a fault that Of and Turn share is seen.
func TestOfKnownNumbers(t *testing.T) {
	for _, c := range []struct {
		s    string
		salt uint64
		text uint64 // the number of the text ahead of its last turn
	}{
		{"", 0, 0xCBF29CE484222325 ^ 0xE220A8397B1DCDAF},
		{"a", 0, 0xAF63DC4C8601EC8C ^ 0xE220A8397B1DCDAF},
		{"foobar", 0x9E3779B97F4A7C15, 0x85944171F73967E8 ^ 0x6E789E6AA1B965F4},
	} {
		if got, want := unturn(Of(c.s, c.salt)), c.text; got != want {
			t.Errorf("Of(%q, %#x) comes of %#x, wanted %#x", c.s, c.salt, got, want)
		}
	}
}

// P11
func TestTwo(t *testing.T) {
	for i, a := range samples() {
		for _, b := range samples()[:20] {
			if got := Two(a, b); got != Turn(Turn(a)^b) || unturn(unturn(got)^b) != a {
				t.Errorf("%d: Two(%#x, %#x) = %#x", i, a, b, got)
			}
		}
	}
	if Two(1, 2) == Two(2, 1) {
		t.Error("the order of the two makes no difference")
	}
	if got := unturn(Two(0, 0)); got != 0xE220A8397B1DCDAF {
		t.Errorf("Two(0, 0) comes of %#x", got)
	}
}

// samples: small numbers, great ones, single bits, runs of bits.
func samples() []uint64 {
	var l []uint64
	for i := range uint64(10) {
		l = append(l, i, ^i)
	}
	for i := range 64 {
		b := uint64(1) << i
		l = append(l, b, ^b, b-1, bits.Reverse64(b-1), b*0x9E3779B97F4A7C15)
	}
	return l
}

// unturn goes a turn's steps backward, with numbers worked out here.
func unturn(z uint64) uint64 {
	back := func(z uint64, down uint) uint64 {
		y := z
		for range 64 / down {
			y = z ^ y>>down
		}
		return y
	}
	inverse := func(odd uint64) uint64 {
		x := odd
		for range 6 { // each round doubles how many low bits are right
			x *= 2 - odd*x
		}
		return x
	}
	z = back(z, 31) * inverse(0x94D049BB133111EB)
	z = back(z, 27) * inverse(0xBF58476D1CE4E5B9)
	return back(z, 30) - 0x9E3779B97F4A7C15
}

// P12: what can be turned back is the turn of one number only.
func TestTurnCanBeTurnedBack(t *testing.T) {
	for _, z := range samples() {
		if got := unturn(Turn(z)); got != z {
			t.Errorf("Turn(%#x) = %#x, back: %#x", z, Turn(z), got)
		}
		if got := Turn(unturn(z)); got != z {
			t.Errorf("%#x is no turn: %#x", z, got)
		}
	}
}

// P12
func TestTurnOfDifferentIsDifferent(t *testing.T) {
	from := map[uint64]uint64{}
	look := func(z uint64) {
		if other, ok := from[Turn(z)]; ok && other != z {
			t.Fatalf("Turn of %#x and of %#x is %#x", z, other, Turn(z))
		}
		from[Turn(z)] = z
	}
	for _, z := range samples() {
		look(z)
	}
	for i := range uint64(100000) {
		look(i)
		look(i << 40)
		look(^i)
	}
}

// P12
func FuzzTurn(f *testing.F) {
	f.Add(uint64(0), uint64(1))
	f.Add(^uint64(0), uint64(1)<<63)
	f.Fuzz(func(t *testing.T, a, b uint64) {
		if (Turn(a) == Turn(b)) != (a == b) || unturn(Turn(a)) != a {
			t.Errorf("%#x, %#x: %#x, %#x", a, b, Turn(a), Turn(b))
		}
	})
}
