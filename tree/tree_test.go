package tree_test

import (
	"bytes"
	"math"
	"math/rand"
	"reflect"
	"slices"
	"sort"
	"strconv"
	"strings"
	"testing"

	"sleuth/api"
	"sleuth/tree"
)

// file, exec and dir are entries of a name, each with an id that tells it from others.
func file(name string) api.Entry { return entry(name, api.File) }
func exec(name string) api.Entry { return entry(name, api.Exec) }
func dir(name string) api.Entry  { return entry(name, api.Dir) }

// entry is one of a name and a mode.
func entry(name string, mode int) api.Entry {
	return api.Entry{Name: name, Mode: mode, ID: api.ID{byte(mode), byte(len(name)), 0, 255, 31: 9}}
}

// files are entries of these names.
func files(names ...string) []api.Entry {
	var l []api.Entry
	for _, name := range names {
		l = append(l, file(name))
	}
	return l
}

// long is a name of so many bytes.
func long(n int) string { return strings.Repeat("n", n) }

// many are n files in order.
func many(n int) []api.Entry {
	var l []api.Entry
	for k := range n {
		l = append(l, file("f"+strconv.Itoa(1000+k)))
	}
	return l
}

// with is a list with one more behind it.
func with(l []api.Entry, more ...api.Entry) []api.Entry {
	return append(slices.Clone(l), more...)
}

// check is one case of Check: entries, and what is wrong with them.
type check struct {
	what string
	l    []api.Entry
	want api.Errno
}

// right are lists that may be a tree.
var right = []check{
	{"none", nil, api.OK},
	{"an empty list", []api.Entry{}, api.OK},
	{"a file", files("a"), api.OK},
	{"a file that can be run", []api.Entry{exec("a")}, api.OK},
	{"a directory", []api.Entry{dir("a")}, api.OK},
	{"an id of noughts", []api.Entry{{Name: "a", Mode: api.File}}, api.OK},
	{"one id twice", files("a", "b"), api.OK},
	{"the example", []api.Entry{file("a.b"), dir("a"), file("a0")}, api.OK},
	{"a directory behind what a stroke is above", []api.Entry{file("a!"), file("a-"), exec("a."), dir("a"), file("a0"), file("aa")}, api.OK},
	{"directories alone", []api.Entry{dir("a.b"), dir("a"), dir("a0")}, api.OK},
	{"one name begins another one", files("a", "ab", "abc"), api.OK},
	{"bytes, not letters", files("!", "B", "a", "~"), api.OK},
	{"the longest name", files(long(31), long(32)), api.OK},
	{"64 entries", many(64), api.OK},
	{"63 entries", many(63), api.OK},
}

// wrong are lists that may not, by the first of what is wrong.
var wrong = []check{
	{"65 entries", many(65), api.ErrLong},
	{"1000 entries", many(1000), api.ErrLong},
	{"65 entries of noughts", make([]api.Entry, 65), api.ErrLong},
	{"65 entries, one mode that is none", with(many(64), entry("z", 4)), api.ErrLong},
	{"65 entries, one of them twice", with(many(64), file("f1000")), api.ErrLong},
	{"64 entries of noughts", make([]api.Entry, 64), api.ErrMode},
	{"mode 0", []api.Entry{entry("a", 0)}, api.ErrMode},
	{"mode 4", []api.Entry{entry("a", 4)}, api.ErrMode},
	{"mode -1", []api.Entry{entry("a", -1)}, api.ErrMode},
	{"mode 257", []api.Entry{entry("a", 257)}, api.ErrMode},
	{"the digit as a mode", []api.Entry{entry("a", '1')}, api.ErrMode},
	{"the greatest mode", []api.Entry{entry("a", math.MaxInt)}, api.ErrMode},
	{"the least mode", []api.Entry{entry("a", math.MinInt)}, api.ErrMode},
	{"the last mode is none", with(files("a", "b"), entry("c", 9)), api.ErrMode},
	{"no name", files(""), api.ErrName},
	{"a dot", files("."), api.ErrName},
	{"two dots", []api.Entry{dir("..")}, api.ErrName},
	{"a stroke", files("a/b"), api.ErrName},
	{"a stroke at the end", []api.Entry{dir("a/")}, api.ErrName},
	{"a blank", files("a b"), api.ErrName},
	{"a byte 0", files("a\x00"), api.ErrName},
	{"a byte 255", files("\xff"), api.ErrName},
	{"33 bytes", files(long(33)), api.ErrName},
	{"a long one", files(long(100000)), api.ErrName},
	{"the last name is none", files("a", "b", ""), api.ErrName},
	{"mode ahead of name, in one entry", []api.Entry{entry("", 0)}, api.ErrMode},
	{"the first entry's name ahead of the second one's mode", []api.Entry{file(""), entry("a", 0)}, api.ErrName},
	{"the first entry's mode ahead of the second one's name", []api.Entry{entry("a", 0), file("")}, api.ErrMode},
	{"mode ahead of twice", []api.Entry{file("a"), file("a"), entry("b", 4)}, api.ErrMode},
	{"name ahead of twice", files("a", "a", "."), api.ErrName},
	{"mode ahead of order", []api.Entry{file("b"), file("a"), entry("c", 4)}, api.ErrMode},
	{"name ahead of order", files("b", "a", "/"), api.ErrName},
	{"a file twice", files("a", "a"), api.ErrTwice},
	{"one entry twice in all", []api.Entry{dir("a"), dir("a")}, api.ErrTwice},
	{"a file and a directory", []api.Entry{file("a"), dir("a")}, api.ErrTwice},
	{"a directory and a file", []api.Entry{dir("a"), file("a")}, api.ErrTwice},
	{"two modes of files", []api.Entry{file("a"), exec("a")}, api.ErrTwice},
	{"twice, and keys that rise with another one between", []api.Entry{file("a"), file("a.b"), dir("a")}, api.ErrTwice},
	{"twice, far from one another", with(many(63), file("f1000")), api.ErrTwice},
	{"twice ahead of order", files("b", "a", "b"), api.ErrTwice},
	{"twice behind another order", files("c", "b", "a", "a"), api.ErrTwice},
	{"falling", files("b", "a"), api.ErrOrder},
	{"the last one falls", files("a", "c", "b"), api.ErrOrder},
	{"the first one falls", files("b", "a", "c"), api.ErrOrder},
	{"a directory where a file would stand", []api.Entry{dir("a"), file("a.b")}, api.ErrOrder},
	{"a file where a directory would stand", []api.Entry{file("a.b"), file("a")}, api.ErrOrder},
	{"a directory behind what is above a stroke", []api.Entry{file("a0"), dir("a")}, api.ErrOrder},
	{"letters, not bytes", files("a", "B"), api.ErrOrder},
	{"a longer one ahead of what begins it", files("ab", "a"), api.ErrOrder},
	{"64 entries, the last two the other way round", with(many(62), file("f1063"), file("f1062")), api.ErrOrder},
}

// P6.1

func TestCheck(t *testing.T) {
	for _, x := range slices.Concat(right, wrong) {
		if e := tree.Check(x.l); e != x.want {
			t.Errorf("%s: %v, want %v", x.what, e, x.want)
		}
	}
}

func TestCheckOfEachMode(t *testing.T) {
	for mode := -300; mode <= 300; mode++ {
		want := api.ErrMode
		if mode == 1 || mode == 2 || mode == 3 {
			want = api.OK
		}
		if e := tree.Check([]api.Entry{entry("a", mode)}); e != want {
			t.Errorf("mode %d: %v", mode, e)
		}
	}
}

func TestCheckOfEachByte(t *testing.T) {
	for c := range 256 {
		want := api.ErrName
		if c >= 33 && c <= 126 && c != '/' {
			want = api.OK
		}
		if e := tree.Check(files("x" + string([]byte{byte(c)}))); e != want {
			t.Errorf("a name with the byte %d: %v", c, e)
		}
	}
}

func TestOrderAroundAStroke(t *testing.T) {
	for c := 33; c <= 126; c++ {
		if c == '/' {
			continue
		}
		below, above := file("a"+string(rune(c))), dir("a")
		if c > '/' {
			below, above = above, below
		}
		if e := tree.Check([]api.Entry{below, above}); e != api.OK {
			t.Errorf("%q, %q: %v", below.Name, above.Name, e)
		}
		if e := tree.Check([]api.Entry{above, below}); e != api.ErrOrder {
			t.Errorf("%q, %q: %v", above.Name, below.Name, e)
		}
	}
}

// P6.2: Sorted

func TestSorted(t *testing.T) {
	second := api.Entry{Name: "a", Mode: api.File, ID: api.ID{2}}
	for k, x := range []struct{ l, want []api.Entry }{
		{nil, nil},
		{[]api.Entry{}, nil},
		{files("a"), files("a")},
		{files("c", "a", "b"), files("a", "b", "c")},
		{files("a", "b", "c"), files("a", "b", "c")},
		{[]api.Entry{dir("a"), file("a0"), file("a.b")}, []api.Entry{file("a.b"), dir("a"), file("a0")}},
		{[]api.Entry{dir("a"), file("a.b"), file("a")}, []api.Entry{file("a"), file("a.b"), dir("a")}},
		{[]api.Entry{dir("ab"), dir("a"), file("a")}, []api.Entry{file("a"), dir("a"), dir("ab")}},
		// Of one key they stay as they stood.
		{[]api.Entry{file("b"), file("a"), exec("a"), second}, []api.Entry{file("a"), exec("a"), second, file("b")}},
		{[]api.Entry{second, exec("a"), file("a"), file("b")}, []api.Entry{second, exec("a"), file("a"), file("b")}},
		{[]api.Entry{file("a/"), dir("a")}, []api.Entry{file("a/"), dir("a")}},
		{[]api.Entry{dir("a"), file("a/")}, []api.Entry{dir("a"), file("a/")}},
		// Nothing is refused: a mode that is none is a file's, as far as keys go.
		{[]api.Entry{file("\xff"), entry("b", 0), file(""), entry("b", -3), entry("a", 99)}, []api.Entry{file(""), entry("a", 99), entry("b", 0), entry("b", -3), file("\xff")}},
		{[]api.Entry{entry("a0", 4), entry("a.", 4), entry("a", 4), dir("a")}, []api.Entry{entry("a", 4), entry("a.", 4), dir("a"), entry("a0", 4)}},
		{[]api.Entry{dir(""), file(".")}, []api.Entry{file("."), dir("")}},
	} {
		if got := tree.Sorted(x.l); !slices.Equal(got, x.want) {
			t.Errorf("%d: %v", k, got)
		}
	}
}

func TestSortedTakesMoreThanATree(t *testing.T) {
	l := many(3000)
	slices.Reverse(l)
	if got := tree.Sorted(l); !slices.Equal(got, many(3000)) {
		t.Error("3000 entries aren't in order, or aren't all there")
	}
}

// keyOf is an entry's key.
func keyOf(x api.Entry) string {
	if x.Mode == 3 {
		return x.Name + "/"
	}
	return x.Name
}

// anyEntries are n of any kind; many have one name, or a name that begins another one's.
func anyEntries(r *rand.Rand, n int) []api.Entry {
	l := make([]api.Entry, n)
	for k := range l {
		name := make([]byte, r.Intn(4))
		for j := range name {
			name[j] = ".-/0a\xff"[r.Intn(6)]
		}
		l[k] = api.Entry{Name: string(name), Mode: r.Intn(5), ID: api.ID{byte(k), byte(k >> 8)}}
	}
	return l
}

func TestSortedAgainstModel(t *testing.T) {
	r := rand.New(rand.NewSource(6))
	for range 2000 {
		l := anyEntries(r, r.Intn(40))
		want := slices.Clone(l)
		sort.SliceStable(want, func(i, j int) bool { return keyOf(want[i]) < keyOf(want[j]) })
		if got := tree.Sorted(l); !slices.Equal(got, want) {
			t.Fatalf("%v became %v", l, got)
		}
	}
}

// P6.2: Put

// one is an entry as bytes, by the words of the chapter.
func one(digit string, name string, id api.ID) string {
	return digit + " " + name + "\x00" + string(id[:])
}

func TestPut(t *testing.T) {
	var count api.ID
	for k := range count {
		count[k] = byte(k)
	}
	noughts := strings.Repeat("\x00", 32)
	for k, x := range []struct {
		l    []api.Entry
		want string
	}{
		{nil, ""},
		{[]api.Entry{}, ""},
		{[]api.Entry{{Name: "a", Mode: 1}}, "1 a\x00" + noughts},
		{[]api.Entry{{Name: "ab", Mode: 2, ID: count}}, "2 ab\x00\x00\x01\x02\x03\x04\x05\x06\x07\x08\x09\x0a\x0b\x0c\x0d\x0e\x0f\x10\x11\x12\x13\x14\x15\x16\x17\x18\x19\x1a\x1b\x1c\x1d\x1e\x1f"},
		{[]api.Entry{{Name: "d", Mode: 3}}, "3 d\x00" + noughts},
		{[]api.Entry{file("a.b"), dir("a"), exec("a0")}, one("1", "a.b", file("a.b").ID) + one("3", "a", dir("a").ID) + one("2", "a0", exec("a0").ID)},
		{files(long(32)), one("1", long(32), file(long(32)).ID)},
	} {
		if b, e := tree.Put(x.l); string(b) != x.want || e != api.OK {
			t.Errorf("%d: %q, %v", k, b, e)
		}
	}
	if b, e := tree.Put(many(64)); len(b) != 64*(2+5+1+32) || e != api.OK {
		t.Error("64 entries:", len(b), e)
	}
}

func TestPutRefusesWhatCheckDoes(t *testing.T) {
	for _, x := range wrong {
		if b, e := tree.Put(x.l); b != nil || e != x.want {
			t.Errorf("%s: %q, %v, want %v", x.what, b, e, x.want)
		}
	}
}

// P6.3

func TestGet(t *testing.T) {
	for _, x := range right {
		b, _ := tree.Put(x.l)
		if l, e := tree.Get(b); !slices.Equal(l, x.l) || e != api.OK {
			t.Errorf("%s: %v, %v", x.what, l, e)
		}
	}
}

func TestGetRefuses(t *testing.T) {
	id := strings.Repeat("i", 32)
	good := "1 a\x00" + id
	for _, x := range []struct {
		b    string
		want api.Errno
	}{
		{"1", api.ErrEnd}, {"2", api.ErrEnd}, {"3", api.ErrEnd}, {"0", api.ErrMode}, {"4", api.ErrMode}, {"\x01", api.ErrMode}, {"\x00", api.ErrMode}, {" ", api.ErrMode}, {"\xff", api.ErrMode}, {"a", api.ErrMode},
		{"1a", api.ErrMode}, {"1\x00", api.ErrMode}, {"11", api.ErrMode}, {"1\ta\x00" + id, api.ErrMode}, {"01 a\x00" + id, api.ErrMode}, {"4 a\x00" + id, api.ErrMode}, {"4", api.ErrMode}, {"4a", api.ErrMode}, {" 1 a\x00" + id, api.ErrMode},
		{"1 ", api.ErrName}, {"1 \x00", api.ErrName}, {"1 \x00" + id, api.ErrName}, {"1 .", api.ErrName}, {"1 ..", api.ErrName}, {"1 .\x00" + id, api.ErrName}, {"1 a/b\x00" + id, api.ErrName}, {"1 a/", api.ErrName}, {"1  a\x00" + id, api.ErrName},
		{"1 a b", api.ErrName}, {"1 \xff\x00" + id, api.ErrName}, {"1 " + long(33), api.ErrName}, {"1 " + long(33) + "\x00" + id, api.ErrName}, {"1 " + long(100000), api.ErrName},
		{"1 a", api.ErrEnd}, {"1 " + long(32), api.ErrEnd}, {"1 ...", api.ErrEnd}, {"1 a\x00", api.ErrEnd}, {"1 a\x00" + id[:31], api.ErrEnd}, {"1 a\x00" + strings.Repeat("\x00", 31), api.ErrEnd}, {"3 a\x00" + id[:1], api.ErrEnd},
		// The name is looked at ahead of the id that is cut off.
		{"1 .\x00" + id[:31], api.ErrName}, {"1 \x00\x00", api.ErrName},
		// The first entry that is wrong tells, and each ahead of what is wrong with all.
		{good + "1", api.ErrEnd}, {good + "5", api.ErrMode}, {good + "1 ", api.ErrName}, {good + "1 a", api.ErrEnd}, {good + good + "1 a\x00", api.ErrEnd}, {good + good + "\n", api.ErrMode}, {"1 b\x00" + id + good + "1 /", api.ErrName},
		{"1 .\x00" + id + "4", api.ErrName}, {"4 a\x00" + id + "1 .", api.ErrMode},
		// What Check says of them all.
		{good + good, api.ErrTwice}, {good + "3 a\x00" + id, api.ErrTwice}, {good + "1 a.b\x00" + id + "3 a\x00" + id, api.ErrTwice}, {"1 b\x00" + id + good, api.ErrOrder}, {"3 a\x00" + id + "1 a.b\x00" + id, api.ErrOrder}, {"1 b\x00" + id + good + good, api.ErrTwice},
		{strings.Repeat(good, 64), api.ErrTwice}, {strings.Repeat(good, 65), api.ErrLong}, {strings.Repeat(good, 65) + "4", api.ErrMode}, {strings.Repeat(good, 65) + "1", api.ErrEnd}, {strings.Repeat(good, 1000) + "1 ", api.ErrName}, {strings.Repeat(good, 1000), api.ErrLong},
	} {
		if l, e := tree.Get([]byte(x.b)); l != nil || e != x.want {
			t.Errorf("%.100q: %v, %v, want %v", x.b, l, e, x.want)
		}
	}
}

func TestGetOfNothing(t *testing.T) {
	for _, b := range [][]byte{nil, {}} {
		if l, e := tree.Get(b); len(l) != 0 || e != api.OK {
			t.Error(l, e)
		}
	}
}

func TestGetOfEachDigitAndBlank(t *testing.T) {
	rest := "a\x00" + strings.Repeat("i", 32)
	for c := range 256 {
		l, e := tree.Get([]byte(string([]byte{byte(c)}) + " " + rest))
		if c == '1' || c == '2' || c == '3' {
			if e != api.OK || len(l) != 1 || l[0].Mode != c-'0' {
				t.Errorf("the digit %d: %v, %v", c, l, e)
			}
		} else if e != api.ErrMode {
			t.Errorf("the digit %d: %v, %v", c, l, e)
		}
		_, e = tree.Get([]byte("1" + string([]byte{byte(c)}) + rest))
		if want := c == ' '; (e == api.OK) != want || !want && e != api.ErrMode {
			t.Errorf("the byte %d in the blank's place: %v", c, e)
		}
	}
}

func TestGetTakesAnyID(t *testing.T) {
	for c := range 256 {
		id := bytes.Repeat([]byte{byte(c)}, 32)
		b := append([]byte("1 a\x00"), id...)
		b = append(append(b, "2 b\x00"...), id...)
		l, e := tree.Get(b)
		if e != api.OK || len(l) != 2 || l[0].ID != api.ID(id) || l[1] != (api.Entry{Name: "b", Mode: 2, ID: api.ID(id)}) {
			t.Errorf("ids of the byte %d: %v, %v", c, l, e)
		}
	}
}

func TestGetOfEachCut(t *testing.T) {
	l := []api.Entry{file("a.b"), dir("a"), exec("a0"), file(long(32))}
	b, _ := tree.Put(l)
	whole := map[int]int{}
	for k := range len(l) + 1 {
		head, _ := tree.Put(l[:k])
		whole[len(head)] = k
	}
	for n := range len(b) + 1 {
		got, e := tree.Get(b[:n])
		k, ends := whole[n]
		_, blankIsLast := whole[n-2]
		switch {
		case ends:
			if !slices.Equal(got, l[:k]) || e != api.OK {
				t.Errorf("%d bytes: %v, %v", n, got, e)
			}
		case blankIsLast:
			if got != nil || e != api.ErrName {
				t.Errorf("%d bytes: %v, %v", n, got, e)
			}
		case got != nil || e != api.ErrEnd:
			t.Errorf("%d bytes: %v, %v", n, got, e)
		}
	}
}

// isName is what a name is, by the words of chapter 5.
func isName(s string) bool {
	for _, c := range []byte(s) {
		if c < 33 || c > 126 || c == '/' {
			return false
		}
	}
	return len(s) >= 1 && len(s) <= 32 && s != "." && s != ".."
}

// getModel is what Get says, by the words of the chapter.
func getModel(b []byte) ([]api.Entry, api.Errno) {
	var l []api.Entry
	for at := 0; at < len(b); {
		if b[at] < '1' || b[at] > '3' {
			return nil, api.ErrMode
		}
		entry := api.Entry{Mode: int(b[at] - '0')}
		if at++; at == len(b) {
			return nil, api.ErrEnd
		}
		if b[at] != 32 {
			return nil, api.ErrMode
		}
		for at++; at < len(b) && b[at] != 0; at++ {
			entry.Name += string(b[at : at+1])
		}
		if !isName(entry.Name) {
			return nil, api.ErrName
		}
		if at+1+32 > len(b) {
			return nil, api.ErrEnd
		}
		copy(entry.ID[:], b[at+1:])
		at += 1 + 32
		l = append(l, entry)
	}
	if len(l) > 64 {
		return nil, api.ErrLong
	}
	falls := false
	for k := range l {
		for j := range k {
			if l[j].Name == l[k].Name {
				return nil, api.ErrTwice
			}
			falls = falls || keyOf(l[j]) > keyOf(l[k])
		}
	}
	if falls {
		return nil, api.ErrOrder
	}
	return l, api.OK
}

// someTree is entries that may be a tree, so many at most, with names that are much alike.
func someTree(r *rand.Rand, most int) []api.Entry {
	names := map[string]bool{}
	var l []api.Entry
	for range r.Intn(most + 1) {
		name := make([]byte, 1+r.Intn(4))
		for k := range name {
			name[k] = "a-.0"[r.Intn(4)]
		}
		if s := string(name); isName(s) && !names[s] {
			names[s] = true
			x := api.Entry{Name: s, Mode: 1 + r.Intn(3)}
			r.Read(x.ID[:])
			l = append(l, x)
		}
	}
	sort.Slice(l, func(i, j int) bool { return keyOf(l[i]) < keyOf(l[j]) })
	return l
}

// spoilt are bytes with a few of them turned, left out, put in or moved.
func spoilt(r *rand.Rand, b []byte) []byte {
	b = slices.Clone(b)
	for range 1 + r.Intn(3) {
		at := r.Intn(len(b) + 1)
		switch r.Intn(5) {
		case 0:
			b = b[:at]
		case 1:
			b = slices.Insert(b, at, "\x00 123a./\xff"[r.Intn(9)])
		case 2:
			b = append(slices.Clone(b[at:]), b[:at]...)
		case 3:
			b = slices.Delete(b, min(at, len(b)), min(at+1, len(b)))
		case 4:
			if at < len(b) {
				b[at] = "\x00 123a./\xff"[r.Intn(9)]
			}
		}
	}
	return b
}

func TestGetAgainstModel(t *testing.T) {
	r := rand.New(rand.NewSource(61))
	told := map[api.Errno]int{}
	for range 30000 {
		b, _ := tree.Put(someTree(r, 5))
		if r.Intn(4) > 0 {
			b = spoilt(r, b)
		}
		want, wantE := getModel(b)
		got, e := tree.Get(b)
		if e != wantE || !slices.Equal(got, want) {
			t.Fatalf("%q: %v, %v, want %v, %v", b, got, e, want, wantE)
		}
		told[e]++
	}
	for _, e := range []api.Errno{api.OK, api.ErrMode, api.ErrName, api.ErrEnd, api.ErrTwice, api.ErrOrder} {
		if told[e] == 0 {
			t.Error("no bytes were answered by", e)
		}
	}
}

// P6.4: Find

func TestFind(t *testing.T) {
	second := api.Entry{Name: "b", Mode: api.Dir, ID: api.ID{2}}
	l := []api.Entry{file("c"), exec("b"), second, dir("a"), file("c"), entry("", 0), entry("x/y", 7)}
	for _, x := range []struct {
		name string
		want api.Entry
		has  bool
	}{
		{"a", dir("a"), true}, {"b", exec("b"), true}, {"c", file("c"), true}, {"", entry("", 0), true}, {"x/y", entry("x/y", 7), true},
		{"d", api.Entry{}, false}, {"a/", api.Entry{}, false}, {"A", api.Entry{}, false}, {"ab", api.Entry{}, false}, {"x", api.Entry{}, false}, {" ", api.Entry{}, false}, {long(1000), api.Entry{}, false},
	} {
		if got, has := tree.Find(l, x.name); got != x.want || has != x.has {
			t.Errorf("%q: %v, %v", x.name, got, has)
		}
	}
	for _, empty := range [][]api.Entry{nil, {}} {
		for _, name := range []string{"", "a"} {
			if got, has := tree.Find(empty, name); has || got != (api.Entry{}) {
				t.Errorf("%q in nothing: %v, %v", name, got, has)
			}
		}
	}
}

func TestFindInEachPlace(t *testing.T) {
	l := many(100)
	for k := range l {
		if got, has := tree.Find(l, l[k].Name); got != l[k] || !has {
			t.Errorf("%q: %v, %v", l[k].Name, got, has)
		}
		if got, has := tree.Find(l[:k], l[k].Name); has || got != (api.Entry{}) {
			t.Errorf("%q in what stands ahead of it: %v, %v", l[k].Name, got, has)
		}
	}
}

// P6.4: Merge

// inBoth, inA and inB are rows.
func inBoth(a, b api.Entry) tree.Both {
	return tree.Both{Name: a.Name, A: a, B: b, HasA: true, HasB: true}
}
func inA(x api.Entry) tree.Both { return tree.Both{Name: x.Name, A: x, HasA: true} }
func inB(x api.Entry) tree.Both { return tree.Both{Name: x.Name, B: x, HasB: true} }

func TestMerge(t *testing.T) {
	for k, x := range []struct {
		a, b []api.Entry
		want []tree.Both
	}{
		{nil, nil, nil},
		{[]api.Entry{}, nil, nil},
		{files("a"), nil, []tree.Both{inA(file("a"))}},
		{nil, files("a"), []tree.Both{inB(file("a"))}},
		{files("a", "b"), nil, []tree.Both{inA(file("a")), inA(file("b"))}},
		{files("a"), files("a"), []tree.Both{inBoth(file("a"), file("a"))}},
		{files("a"), []api.Entry{dir("a")}, []tree.Both{inBoth(file("a"), dir("a"))}},
		{files("a", "c"), files("b", "d"), []tree.Both{inA(file("a")), inB(file("b")), inA(file("c")), inB(file("d"))}},
		{files("b", "d"), files("a", "c"), []tree.Both{inB(file("a")), inA(file("b")), inB(file("c")), inA(file("d"))}},
		{files("a", "b", "c"), files("b"), []tree.Both{inA(file("a")), inBoth(file("b"), file("b")), inA(file("c"))}},
		{files("a"), files("a", "b", "c"), []tree.Both{inBoth(file("a"), file("a")), inB(file("b")), inB(file("c"))}},
		// By names, not by keys, and whatever stood ahead in the lists.
		{[]api.Entry{file("a.b"), dir("a"), file("a0")}, []api.Entry{file("a"), file("a0"), dir("b")}, []tree.Both{inBoth(dir("a"), file("a")), inA(file("a.b")), inBoth(file("a0"), file("a0")), inB(dir("b"))}},
		{[]api.Entry{file("a.b"), dir("a")}, []api.Entry{file("a.b"), dir("a")}, []tree.Both{inBoth(dir("a"), dir("a")), inBoth(file("a.b"), file("a.b"))}},
		{files("c", "a", "b"), files("b", "c"), []tree.Both{inA(file("a")), inBoth(file("b"), file("b")), inBoth(file("c"), file("c"))}},
		// Of several the first one.
		{[]api.Entry{exec("a"), file("a"), dir("a")}, nil, []tree.Both{inA(exec("a"))}},
		{[]api.Entry{dir("a"), file("a")}, []api.Entry{file("b"), exec("a"), file("a"), dir("b")}, []tree.Both{inBoth(dir("a"), exec("a")), inB(file("b"))}},
		// Nothing is refused.
		{[]api.Entry{entry("", 0), file("\xff")}, []api.Entry{entry("x/y", 9), entry("", 0)}, []tree.Both{inBoth(entry("", 0), entry("", 0)), inB(entry("x/y", 9)), inA(file("\xff"))}},
		{[]api.Entry{{}}, nil, []tree.Both{{HasA: true}}},
		{nil, []api.Entry{{}, {}}, []tree.Both{{HasB: true}}},
		{[]api.Entry{file("a/")}, []api.Entry{dir("a")}, []tree.Both{inB(dir("a")), inA(file("a/"))}},
	} {
		if got := tree.Merge(x.a, x.b); !slices.Equal(got, x.want) {
			t.Errorf("%d: %v", k, got)
		}
	}
}

// mergeModel is what Merge says, by the words of the chapter.
func mergeModel(a, b []api.Entry) []tree.Both {
	names := map[string]bool{}
	for _, x := range slices.Concat(a, b) {
		names[x.Name] = true
	}
	var l []tree.Both
	for name := range names {
		row := tree.Both{Name: name}
		for k := len(a) - 1; k >= 0; k-- {
			if a[k].Name == name {
				row.A, row.HasA = a[k], true
			}
		}
		for k := len(b) - 1; k >= 0; k-- {
			if b[k].Name == name {
				row.B, row.HasB = b[k], true
			}
		}
		l = append(l, row)
	}
	sort.Slice(l, func(i, j int) bool { return l[i].Name < l[j].Name })
	return l
}

func TestMergeAgainstModel(t *testing.T) {
	r := rand.New(rand.NewSource(64))
	for range 3000 {
		a, b := anyEntries(r, r.Intn(20)), anyEntries(r, r.Intn(20))
		if got, want := tree.Merge(a, b), mergeModel(a, b); !slices.Equal(got, want) {
			t.Fatalf("%v and %v: %v, want %v", a, b, got, want)
		}
	}
}

func TestMergeTakesMoreThanATree(t *testing.T) {
	l := many(3000)
	got := tree.Merge(l[:2000], l[1000:])
	if len(got) != 3000 {
		t.Fatal(len(got), "rows")
	}
	for k, row := range got {
		want := tree.Both{Name: l[k].Name, HasA: k < 2000, HasB: k >= 1000}
		if want.HasA {
			want.A = l[k]
		}
		if want.HasB {
			want.B = l[k]
		}
		if row != want {
			t.Fatal(k, row)
		}
	}
}

// P6.5

func TestGetOfPut(t *testing.T) {
	r := rand.New(rand.NewSource(65))
	for range 3000 {
		l := someTree(r, 64)
		b, e := tree.Put(l)
		if e != api.OK {
			t.Fatalf("%v: %v", l, e)
		}
		if got, e := tree.Get(b); !slices.Equal(got, l) || e != api.OK {
			t.Fatalf("%v became %v, %v", l, got, e)
		}
	}
}

func TestPutOfGet(t *testing.T) {
	r := rand.New(rand.NewSource(66))
	taken := 0
	for range 30000 {
		b, _ := tree.Put(someTree(r, 4))
		b = spoilt(r, b)
		l, e := tree.Get(b)
		if e != api.OK {
			continue
		}
		taken++
		if again, e := tree.Put(l); !bytes.Equal(again, b) || e != api.OK {
			t.Fatalf("%q became %q, %v", b, again, e)
		}
	}
	if taken < 1000 {
		t.Error("only", taken, "were taken")
	}
}

func TestSortedAreInOrder(t *testing.T) {
	r := rand.New(rand.NewSource(67))
	for range 3000 {
		l := someTree(r, 64)
		r.Shuffle(len(l), func(i, j int) { l[i], l[j] = l[j], l[i] })
		sorted := tree.Sorted(l)
		if e := tree.Check(sorted); e != api.OK {
			t.Fatalf("%v: %v", sorted, e)
		}
		if len(l) == 0 || len(l) == 64 {
			continue
		}
		if e := tree.Check(tree.Sorted(with(l, file(l[0].Name)))); e != api.ErrTwice {
			t.Fatalf("%q twice: %v", l[0].Name, e)
		}
	}
}

// R3 and R4

func TestListsAreLeft(t *testing.T) {
	whole := []api.Entry{dir("b"), file("a"), exec("a"), file("spare"), file("room")}
	kept := slices.Clone(whole)
	l := whole[:3]
	tree.Check(l)
	tree.Sorted(l)
	tree.Put(l)
	tree.Find(l, "a")
	tree.Merge(l, l)
	tree.Merge(l, l[1:])
	if !slices.Equal(whole, kept) {
		t.Error("a list that was handed in was changed:", whole)
	}
	b, _ := tree.Put(files("a", "b"))
	spare := append(b, "spare"...)
	tree.Get(spare[:len(b)])
	tree.Get(spare[:len(b)-1])
	if again, _ := tree.Put(files("a", "b")); string(spare) != string(again)+"spare" {
		t.Errorf("bytes that were handed in were changed: %q", spare)
	}
}

func TestAnswersAreNew(t *testing.T) {
	l := files("a", "b")
	sorted, other := tree.Sorted(l), tree.Sorted(l)
	sorted[0], sorted[1] = dir("x"), dir("y")
	if !slices.Equal(l, files("a", "b")) || !slices.Equal(other, l) {
		t.Error("Sorted shares memory")
	}
	b, _ := tree.Put(l)
	again, _ := tree.Put(l)
	got, _ := tree.Get(b)
	clear(b)
	if !slices.Equal(got, l) || !slices.Equal(l, files("a", "b")) {
		t.Error("Get's entries, or Put's, share memory with the bytes")
	}
	if fromAgain, _ := tree.Get(again); !slices.Equal(fromAgain, l) {
		t.Error("two answers of Put share memory")
	}
	got[0] = dir("x")
	if fromAgain, _ := tree.Get(again); !slices.Equal(fromAgain, l) {
		t.Error("two answers of Get share memory")
	}
	rows, others := tree.Merge(l, l), tree.Merge(l, l)
	clear(rows)
	if !reflect.DeepEqual(others, []tree.Both{inBoth(file("a"), file("a")), inBoth(file("b"), file("b"))}) || !slices.Equal(l, files("a", "b")) {
		t.Error("Merge shares memory")
	}
}
