package oid_test

import (
	"encoding/hex"
	"math"
	"math/rand"
	"slices"
	"strings"
	"testing"

	"sleuth/api"
	"sleuth/oid"
)

// id is the one that begins with these digits, with digits of 0 behind them.
func id(digits string) api.ID {
	b, err := hex.DecodeString(digits + strings.Repeat("0", 64-len(digits)))
	if err != nil {
		panic(err)
	}
	return api.ID(b)
}

// digits are an id's, by the library.
func digits(x api.ID) string { return hex.EncodeToString(x[:]) }

// ids are those that begin with these digits, in this order.
func ids(begin ...string) (l []api.ID) {
	for _, s := range begin {
		l = append(l, id(s))
	}
	return l
}

// full is the id of bytes of 255 alone.
var full = id(strings.Repeat("f", 64))

// some are n ids, of which many begin alike.
func some(n int, seed int64) []api.ID {
	r := rand.New(rand.NewSource(seed))
	l := make([]api.ID, n)
	for k := range l {
		r.Read(l[k][:])
		if k > 0 {
			copy(l[k][:r.Intn(33)], l[r.Intn(k)][:])
		}
		l[k][r.Intn(32)] ^= byte(r.Intn(4))
	}
	return l
}

// rising are lists that rise: short ones, and some that begin alike.
func rising() [][]api.ID {
	lists := [][]api.ID{
		nil,
		{},
		ids(""),
		ids("ab"),
		{full},
		ids("", "1"),
		{id(""), full},
		ids("ab", "ab01", "ab1", "ac"),
		ids("1", "2", "3", "4", "5", "6", "7"),
		{id(strings.Repeat("a", 63)), id(strings.Repeat("a", 63) + "1"), id(strings.Repeat("a", 64))},
	}
	for n := range 40 {
		lists = append(lists, byDigits(some(n, int64(n))))
	}
	return lists
}

// falling are lists that don't rise.
func falling() [][]api.ID {
	return [][]api.ID{
		ids("1", "1"),
		ids("", ""),
		ids("2", "1"),
		ids("1", "3", "2"),
		ids("2", "1", "3"),
		ids("1", "2", "2"),
		ids("1", "2", "3", "3", "4"),
		{full, id("")},
		{id(strings.Repeat("a", 64)), id(strings.Repeat("a", 63))},
	}
}

// byDigits are ids, rising by their digits, each once.
func byDigits(l []api.ID) []api.ID {
	var texts []string
	for _, x := range l {
		texts = append(texts, digits(x))
	}
	slices.Sort(texts)
	return ids(slices.Compact(texts)...)
}

// asked are the ids that a list is asked for: its own, those at their sides, and others.
func asked(l []api.ID) []api.ID {
	out := []api.ID{{}, id("8"), id("ab"), full}
	for _, x := range l {
		above, below := x, x
		above[31]++
		below[31]--
		other := x
		other[16] ^= 1
		out = append(out, x, above, below, other)
	}
	return out
}

// wrong are prefixes that are not right.
func wrong() []oid.Prefix {
	return []oid.Prefix{
		{N: -1},
		{N: 65},
		{N: 66},
		{N: math.MinInt},
		{N: math.MaxInt},
		{ID: full, N: -1},
		{ID: full, N: 65},
		{ID: full, N: math.MaxInt},
		{ID: full, N: 0},
		{ID: full, N: 63},
		{ID: id("ab01"), N: 0},
		{ID: id("ab01"), N: 1},
		{ID: id("ab01"), N: 2},
		{ID: id("ab01"), N: 3},
		{ID: id("1"), N: 0},
		{ID: id("01"), N: 1},
		{ID: id(strings.Repeat("0", 63) + "1"), N: 0},
		{ID: id(strings.Repeat("0", 63) + "1"), N: 1},
		{ID: id(strings.Repeat("0", 63) + "1"), N: 62},
		{ID: id(strings.Repeat("0", 63) + "1"), N: 63},
		{ID: id(strings.Repeat("0", 62) + "10"), N: 62},
	}
}

// P4.1

func TestHex(t *testing.T) {
	for _, x := range []struct {
		id   api.ID
		want string
	}{
		{api.ID{}, strings.Repeat("0", 64)},
		{full, strings.Repeat("f", 64)},
		{api.ID{0xab, 0x01}, "ab01" + strings.Repeat("0", 60)},
		{api.ID{31: 0x2f}, strings.Repeat("0", 62) + "2f"},
		{api.ID{0x01, 0x23, 0x45, 0x67, 0x89, 0xab, 0xcd, 0xef}, "0123456789abcdef" + strings.Repeat("0", 48)},
	} {
		if got := oid.Hex(x.id); got != x.want {
			t.Errorf("%q; want %q", got, x.want)
		}
	}
	for c := range 256 {
		for _, at := range []int{0, 7, 31} {
			var x api.ID
			x[at] = byte(c)
			if got := oid.Hex(x); got != digits(x) {
				t.Errorf("byte %d at %d: %q", c, at, got)
			}
		}
	}
}

func TestRead(t *testing.T) {
	for _, x := range append(some(100, 1), api.ID{}, full, id("0123456789abcdef"), id("ab01")) {
		if got, e := oid.Read(digits(x)); got != x || e != api.OK {
			t.Errorf("%s: %x, %d", digits(x), got, e)
		}
	}
}

func TestReadErrors(t *testing.T) {
	all := strings.Repeat("0123456789abcdef", 4)
	for _, x := range []struct {
		name, s string
		want    api.Errno
	}{
		{"nothing", "", api.ErrLong},
		{"one digit", "a", api.ErrLong},
		{"63 digits", all[1:], api.ErrLong},
		{"65 digits", all + "0", api.ErrLong},
		{"128 digits", all + all, api.ErrLong},
		{"63 digits, and an end of a line", all[1:] + "\n", api.ErrHex},
		{"64 digits, and an end of a line", all + "\n", api.ErrLong},
		{"63 bytes, one of them no digit", "g" + all[2:], api.ErrLong},
		{"65 bytes, none of them a digit", strings.Repeat("g", 65), api.ErrLong},
		{"64 bytes, none of them a digit", strings.Repeat("g", 64), api.ErrHex},
		{"a great letter at the end", all[:63] + "F", api.ErrHex},
		{"great letters", strings.ToUpper(all), api.ErrHex},
		{"a sign of more bytes than one", all[:62] + "é", api.ErrHex},
		{"64 signs of two bytes each", strings.Repeat("é", 64), api.ErrLong},
		{"a sign ahead", "+" + all[1:], api.ErrHex},
		{"0x ahead", "0x" + all[2:], api.ErrHex},
	} {
		if got, e := oid.Read(x.s); got != (api.ID{}) || e != x.want {
			t.Errorf("%s: %x, %d; want %d", x.name, got, e, x.want)
		}
	}
}

func TestReadEachByte(t *testing.T) {
	all := strings.Repeat("7", 64)
	for c := range 256 {
		for _, at := range []int{0, 1, 30, 31, 62, 63} {
			s := all[:at] + string([]byte{byte(c)}) + all[at+1:]
			got, e := oid.Read(s)
			switch {
			case strings.IndexByte("0123456789abcdef", byte(c)) >= 0:
				if got != id(s) || e != api.OK {
					t.Errorf("%q: %x, %d", s, got, e)
				}
			case got != (api.ID{}) || e != api.ErrHex:
				t.Errorf("%q: %x, %d", s, got, e)
			}
		}
	}
}

func TestCompare(t *testing.T) {
	for _, x := range []struct {
		a, b api.ID
		want int
	}{
		{api.ID{}, api.ID{}, 0},
		{full, full, 0},
		{api.ID{}, full, -1},
		{full, api.ID{}, 1},
		{api.ID{31: 1}, api.ID{}, 1},
		{api.ID{}, api.ID{31: 1}, -1},
		{api.ID{1}, api.ID{1: 255}, 1},
		{api.ID{1: 255}, api.ID{1}, -1},
		{api.ID{127}, api.ID{128}, -1},
		{api.ID{255}, api.ID{1}, 1},
		{api.ID{15: 9, 31: 5}, api.ID{15: 9, 31: 6}, -1},
		{api.ID{15: 10, 31: 5}, api.ID{15: 9, 31: 6}, 1},
	} {
		if got := oid.Compare(x.a, x.b); got != x.want {
			t.Errorf("%x and %x: %d; want %d", x.a, x.b, got, x.want)
		}
	}
	l := some(60, 2)
	for _, a := range l {
		for _, b := range l {
			if got, want := oid.Compare(a, b), strings.Compare(digits(a), digits(b)); got != want {
				t.Errorf("%x and %x: %d; want %d", a, b, got, want)
			}
		}
	}
}

// P4.2

func TestBegin(t *testing.T) {
	for _, s := range []string{"", "0", "00", "a", "ab", "ab0", "ab00", "ab1", "f", "0123456789abcdef", strings.Repeat("0", 64), strings.Repeat("f", 64), strings.Repeat("9", 63)} {
		p, e := oid.Begin(s)
		if want := (oid.Prefix{ID: id(s), N: len(s)}); p != want || e != api.OK || !p.Right() {
			t.Errorf("%q: %v, %d, right %v; want %v", s, p, e, p.Right(), want)
		}
	}
	for _, x := range some(20, 3) {
		for n := range 65 {
			s := digits(x)[:n]
			p, e := oid.Begin(s)
			if want := (oid.Prefix{ID: id(s), N: n}); p != want || e != api.OK || !p.Right() || !p.Fits(x) {
				t.Errorf("%q: %v, %d, right %v, fits %v; want %v", s, p, e, p.Right(), p.Fits(x), want)
			}
		}
	}
}

func TestBeginErrors(t *testing.T) {
	for _, x := range []struct {
		s    string
		want api.Errno
	}{
		{strings.Repeat("0", 65), api.ErrLong},
		{strings.Repeat("a", 128), api.ErrLong},
		{strings.Repeat("g", 65), api.ErrLong},
		{strings.Repeat("a", 64) + "g", api.ErrLong},
		{strings.Repeat("g", 64), api.ErrHex},
		{strings.Repeat("a", 63) + "g", api.ErrHex},
		{"g", api.ErrHex},
		{"A", api.ErrHex},
		{"abG", api.ErrHex},
		{"Gab", api.ErrHex},
		{"a b", api.ErrHex},
		{" ab", api.ErrHex},
		{"ab\n", api.ErrHex},
		{"ab\x00", api.ErrHex},
		{"-1", api.ErrHex},
		{"é", api.ErrHex},
		{"١", api.ErrHex},
	} {
		if p, e := oid.Begin(x.s); p != (oid.Prefix{}) || e != x.want {
			t.Errorf("%q: %v, %d; want %d", x.s, p, e, x.want)
		}
	}
	for c := range 256 {
		s := "a" + string([]byte{byte(c)})
		want := api.ErrHex
		if strings.IndexByte("0123456789abcdef", byte(c)) >= 0 {
			want = api.OK
		}
		if p, e := oid.Begin(s); e != want || e != api.OK && p != (oid.Prefix{}) {
			t.Errorf("%q: %v, %d; want %d", s, p, e, want)
		}
	}
}

func TestRight(t *testing.T) {
	for _, p := range wrong() {
		if p.Right() {
			t.Errorf("%v is right", p)
		}
	}
	for _, p := range []oid.Prefix{
		{},
		{N: 1},
		{N: 64},
		{ID: full, N: 64},
		{ID: id("1"), N: 1},
		{ID: id("1"), N: 2},
		{ID: id("01"), N: 2},
		{ID: id("ab01"), N: 4},
		{ID: id("ab01"), N: 5},
		{ID: id("ab01"), N: 64},
		{ID: id(strings.Repeat("f", 63)), N: 63},
		{ID: id(strings.Repeat("0", 63) + "1"), N: 64},
	} {
		if !p.Right() {
			t.Errorf("%v is not right", p)
		}
	}
}

// Each N is asked of ids whose last digit above 0 stands at each place.
func TestRightByTheLastDigit(t *testing.T) {
	for last := range 64 {
		x := id(strings.Repeat("0", last) + "8")
		for n := -2; n < 68; n++ {
			p := oid.Prefix{ID: x, N: n}
			if want := n > last && n <= 64; p.Right() != want {
				t.Errorf("%v: %v", p, p.Right())
			}
		}
	}
}

func TestFits(t *testing.T) {
	for _, x := range []struct {
		begin, id string
		want      bool
	}{
		{"", "", true},
		{"", "ab", true},
		{"ab0", "ab", true},
		{"ab0", "ab01", true},
		{"ab0", "ab0f", true},
		{"ab0", "ab1", false},
		{"ab0", "ab11", false},
		{"ab0", "ba0", false},
		{"ab0", "", false},
		{"ab", "ab1", true},
		{"ab", "aab", false},
		{"0", "0f", true},
		{"0", "1", false},
		{"00", "01", false},
		{"00", "00f", true},
	} {
		p, _ := oid.Begin(x.begin)
		if p.Fits(id(x.id)) != x.want {
			t.Errorf("%q, %q: %v", x.begin, x.id, !x.want)
		}
	}
}

func TestFitsByDigits(t *testing.T) {
	l := append(some(30, 4), api.ID{}, full)
	for _, a := range l {
		for n := range 65 {
			p := oid.Prefix{ID: id(digits(a)[:n]), N: n}
			for _, b := range l {
				if want := digits(a)[:n] == digits(b)[:n]; p.Fits(b) != want {
					t.Errorf("%v, %x: %v", p, b, !want)
				}
			}
		}
	}
}

func TestWrongFitsNothing(t *testing.T) {
	for _, p := range wrong() {
		for _, x := range append(some(10, 5), api.ID{}, full, p.ID, id("ab"), id("ab01")) {
			if p.Fits(x) {
				t.Errorf("%v fits %x", p, x)
			}
		}
	}
}

// P4.3

func TestSorted(t *testing.T) {
	for _, x := range []struct{ l, want []api.ID }{
		{nil, nil},
		{[]api.ID{}, nil},
		{ids("1"), ids("1")},
		{ids(""), ids("")},
		{ids("2", "1"), ids("1", "2")},
		{ids("1", "1"), ids("1")},
		{ids("3", "ab01", "1", "ab01"), ids("1", "3", "ab01")},
		{ids("", "1", ""), ids("", "1")},
		{[]api.ID{full, {}, full, {31: 1}, {1}}, []api.ID{{}, {31: 1}, {1}, full}},
	} {
		if got := oid.Sorted(x.l); !slices.Equal(got, x.want) {
			t.Errorf("%x: %x; want %x", x.l, got, x.want)
		}
	}
	for n := range 60 {
		l := some(n, int64(n))
		l = append(l, l[:n/2]...)
		if got := oid.Sorted(l); !slices.Equal(got, byDigits(l)) || !oid.Rising(got) {
			t.Errorf("%x: %x", l, got)
		}
	}
}

func TestSortedSharesNoMemory(t *testing.T) {
	for _, room := range [][]api.ID{ids("1", "2", "3", "4"), ids("3", "1", "3", "2"), ids("1", "1", "4", "3")} {
		was := slices.Clone(room)
		one, two := oid.Sorted(room[:3]), oid.Sorted(room[:3])
		for k := range one[:cap(one)] {
			one[:cap(one)][k] = full
		}
		if !slices.Equal(room, was) {
			t.Errorf("what was handed in, or its spare room, is changed: %x; want %x", room, was)
		}
		clear(room)
		if want := byDigits(was[:3]); !slices.Equal(two, want) {
			t.Errorf("what was answered is shared: %x; want %x", two, want)
		}
	}
}

func TestRising(t *testing.T) {
	for _, l := range rising() {
		if !oid.Rising(l) {
			t.Errorf("%x does not rise", l)
		}
	}
	for _, l := range falling() {
		if oid.Rising(l) {
			t.Errorf("%x rises", l)
		}
	}
	l := byDigits(some(30, 6))
	for k := range len(l) - 1 {
		turned := slices.Clone(l)
		turned[k], turned[k+1] = turned[k+1], turned[k]
		twice := slices.Insert(slices.Clone(l), k, l[k])
		if oid.Rising(turned) || oid.Rising(twice) {
			t.Errorf("%d: %v, %v", k, oid.Rising(turned), oid.Rising(twice))
		}
	}
}

func TestFind(t *testing.T) {
	for _, l := range rising() {
		for _, x := range asked(l) {
			want := 0
			for want < len(l) && digits(l[want]) < digits(x) {
				want++
			}
			if at, has := oid.Find(l, x); at != want || has != slices.Contains(l, x) {
				t.Errorf("%x, %x: %d, %v; want %d", l, x, at, has, want)
			}
		}
	}
}

func TestFindKnown(t *testing.T) {
	l := ids("1", "3", "ab")
	for _, x := range []struct {
		id   string
		at   int
		want bool
	}{
		{"", 0, false},
		{"1", 0, true},
		{"11", 1, false},
		{"2", 1, false},
		{"3", 1, true},
		{"a", 2, false},
		{"ab", 2, true},
		{"ab0001", 3, false},
		{"f", 3, false},
	} {
		if at, has := oid.Find(l, id(x.id)); at != x.at || has != x.want {
			t.Errorf("%q: %d, %v; want %d, %v", x.id, at, has, x.at, x.want)
		}
	}
	for _, none := range [][]api.ID{nil, {}} {
		if at, has := oid.Find(none, id("1")); at != 0 || has {
			t.Errorf("of no list: %d, %v", at, has)
		}
	}
}

func TestFindInWhatDoesNotRise(t *testing.T) {
	for _, l := range falling() {
		for _, x := range asked(l) {
			if at, has := oid.Find(l, x); at != 0 || has {
				t.Errorf("%x, %x: %d, %v", l, x, at, has)
			}
		}
	}
}

// P4.4

func TestRangeKnown(t *testing.T) {
	l := ids("1", "3", "ab", "ab01", "ab0f", "ab1", "ac", "f")
	for _, x := range []struct {
		begin    string
		from, to int
	}{
		{"", 0, 8},
		{"0", 0, 0},
		{"1", 0, 1},
		{"10", 0, 1},
		{"11", 1, 1},
		{"2", 1, 1},
		{"a", 2, 7},
		{"ab", 2, 6},
		{"ab0", 2, 5},
		{"ab00", 2, 3},
		{"ab01", 3, 4},
		{"ab02", 4, 4},
		{"ab1", 5, 6},
		{"ac", 6, 7},
		{"ad", 7, 7},
		{"f", 7, 8},
		{"ff", 8, 8},
		{digits(full), 8, 8},
		{digits(l[4]), 4, 5},
	} {
		p, _ := oid.Begin(x.begin)
		if from, to := oid.Range(l, p); from != x.from || to != x.to {
			t.Errorf("%q: %d, %d; want %d, %d", x.begin, from, to, x.from, x.to)
		}
	}
}

func TestRangeByDigits(t *testing.T) {
	for _, l := range rising() {
		for _, x := range asked(l) {
			for _, n := range []int{0, 1, 2, 3, 7, 31, 32, 33, 63, 64} {
				begin := digits(x)[:n]
				from, to := 0, 0
				for _, y := range l {
					if digits(y) < digits(id(begin)) {
						from++
						to++
					}
					if strings.HasPrefix(digits(y), begin) {
						to++
					}
				}
				a, b := oid.Range(l, oid.Prefix{ID: id(begin), N: n})
				if a != from || b != to {
					t.Errorf("%x, %q: %d, %d; want %d, %d", l, begin, a, b, from, to)
				}
			}
		}
	}
}

func TestRangeOfWrong(t *testing.T) {
	for _, l := range append(rising(), ids("1", "3", "ab", "ab01")) {
		for _, p := range wrong() {
			if from, to := oid.Range(l, p); from != 0 || to != 0 {
				t.Errorf("%x, %v: %d, %d", l, p, from, to)
			}
		}
	}
	for _, l := range falling() {
		for _, x := range asked(l) {
			for _, n := range []int{0, 1, 64} {
				if from, to := oid.Range(l, oid.Prefix{ID: id(digits(x)[:n]), N: n}); from != 0 || to != 0 {
					t.Errorf("%x, %x, %d: %d, %d", l, x, n, from, to)
				}
			}
		}
	}
}

func TestShortKnown(t *testing.T) {
	a63 := strings.Repeat("a", 63)
	for _, x := range []struct {
		name  string
		l     []api.ID
		id    string
		least int
		want  int
	}{
		{"alone", ids("ab"), "ab", 7, 7},
		{"alone, from 0", ids("ab"), "ab", 0, 0},
		{"alone, from 64", ids("ab"), "ab", 64, 64},
		{"alone, from below 0", ids("ab"), "ab", -1, 0},
		{"alone, from far below 0", ids("ab"), "ab", math.MinInt, 0},
		{"alone, from above 64", ids("ab"), "ab", 65, 64},
		{"alone, from far above 64", ids("ab"), "ab", math.MaxInt, 64},
		{"two, from 0", ids("1", "2"), "1", 0, 1},
		{"two, from below 0", ids("1", "2"), "2", -5, 1},
		{"two, from 1", ids("1", "2"), "2", 1, 1},
		{"two, from 2", ids("1", "2"), "2", 2, 2},
		{"one like it above", ids("12", "13"), "12", 1, 2},
		{"one like it below", ids("12", "13"), "13", 1, 2},
		{"both sides, more like the one above", ids("a", "ab01", "ab02"), "ab01", 0, 4},
		{"both sides, more like the one below", ids("ab01", "ab02", "b"), "ab02", 0, 4},
		{"both sides, first of three", ids("ab01", "ab02", "b"), "ab01", 0, 4},
		{"both sides, last of three", ids("ab01", "ab02", "b"), "b", 0, 1},
		{"least above what tells it", ids("ab01", "ab02", "b"), "ab02", 7, 7},
		{"least just what tells it", ids("ab01", "ab02", "b"), "ab02", 4, 4},
		{"least below what tells it", ids("ab01", "ab02", "b"), "ab02", 3, 4},
		{"digits of 0 are digits", ids("ab", "ab001"), "ab", 2, 5},
		{"all but the last digit alike", ids(a63, a63+"1"), a63, 7, 64},
		{"not there", ids("1", "2"), "3", 1, 0},
		{"not there, between", ids("1", "3"), "2", 1, 0},
		{"not there, but one begins alike", ids("ab01"), "ab", 7, 0},
		{"no list", nil, "", 7, 0},
		{"the one of noughts", ids("", "1"), "", 0, 1},
	} {
		if got := oid.Short(x.l, id(x.id), x.least); got != x.want {
			t.Errorf("%s: %d; want %d", x.name, got, x.want)
		}
	}
}

// short is how many digits tell x from all others of l, tried one after another.
func short(l []api.ID, x api.ID, least int) int {
	for n := min(max(least, 0), 64); ; n++ {
		others := 0
		for _, y := range l {
			if y != x && digits(y)[:n] == digits(x)[:n] {
				others++
			}
		}
		if others == 0 {
			return n
		}
	}
}

func TestShortByDigits(t *testing.T) {
	for _, l := range rising() {
		for _, x := range asked(l) {
			for _, least := range []int{math.MinInt, -1, 0, 1, 2, 7, 40, 63, 64, 65, math.MaxInt} {
				want := 0
				if slices.Contains(l, x) {
					want = short(l, x, least)
				}
				if got := oid.Short(l, x, least); got != want {
					t.Errorf("%x, %x, %d: %d; want %d", l, x, least, got, want)
				}
			}
		}
	}
}

func TestShortInWhatDoesNotRise(t *testing.T) {
	for _, l := range falling() {
		for _, x := range asked(l) {
			for _, least := range []int{0, 1, 7, 64} {
				if n := oid.Short(l, x, least); n != 0 {
					t.Errorf("%x, %x, %d: %d", l, x, least, n)
				}
			}
		}
	}
}

func TestListsAreUsedAsTheyAre(t *testing.T) {
	p, _ := oid.Begin("2")
	for _, room := range [][]api.ID{ids("1", "2", "3", "4"), ids("2", "1", "4", "3"), ids("2", "2", "2", "2")} {
		was := slices.Clone(room)
		oid.Rising(room[:3])
		oid.Find(room[:3], id("2"))
		oid.Range(room[:3], p)
		oid.Short(room[:3], id("2"), 1)
		if !slices.Equal(room, was) {
			t.Errorf("what was handed in is changed: %x; want %x", room, was)
		}
	}
	// Spare room is no part of a list: what stands there is not found, and has no say.
	room := ids("1", "2", "21", "1")
	if !oid.Rising(room[:3]) || oid.Short(room[:2], id("2"), 0) != 1 {
		t.Error("spare room has a say")
	}
	if at, has := oid.Find(room[:2], id("21")); at != 2 || has {
		t.Errorf("found in spare room: %d, %v", at, has)
	}
	if from, to := oid.Range(room[:2], p); from != 1 || to != 2 {
		t.Errorf("fits in spare room: %d, %d", from, to)
	}
}

// P4.5

func TestReadOfHex(t *testing.T) {
	for _, x := range append(some(300, 7), api.ID{}, full) {
		if got, e := oid.Read(oid.Hex(x)); got != x || e != api.OK {
			t.Errorf("%x: %x, %d", x, got, e)
		}
		p, e := oid.Begin(oid.Hex(x))
		if p != (oid.Prefix{ID: x, N: 64}) || e != api.OK {
			t.Errorf("%x: %v, %d", x, p, e)
		}
	}
}

func TestWhatFitsStandsSideBySide(t *testing.T) {
	for _, l := range rising() {
		for _, x := range asked(l) {
			for n := range 65 {
				p, _ := oid.Begin(oid.Hex(x)[:n])
				from, to := oid.Range(l, p)
				if from > to || to > len(l) {
					t.Fatalf("%x, %v: %d, %d", l, p, from, to)
				}
				for k, y := range l {
					if p.Fits(y) != (from <= k && k < to) {
						t.Errorf("%x, %v: %d, %d, and at %d fits %v", l, p, from, to, k, p.Fits(y))
					}
				}
			}
		}
	}
}

// With as many digits as Short tells an id is the only one that fits; with one less it is not, above least.
func TestShortIsEnough(t *testing.T) {
	for _, l := range rising() {
		for _, x := range l {
			n := oid.Short(l, x, 4)
			p, _ := oid.Begin(oid.Hex(x)[:n])
			if from, to := oid.Range(l, p); to-from != 1 || l[from] != x {
				t.Errorf("%x, %x: %d digits fit %d to %d", l, x, n, from, to)
			}
			if n == 4 {
				continue
			}
			p, _ = oid.Begin(oid.Hex(x)[:n-1])
			if from, to := oid.Range(l, p); to-from < 2 {
				t.Errorf("%x, %x: %d digits are not needed", l, x, n)
			}
		}
	}
}
