package refs_test

import (
	"bytes"
	"encoding/hex"
	"math/rand"
	"slices"
	"sort"
	"strconv"
	"strings"
	"testing"

	"sleuth/api"
	"sleuth/refs"
)

// idOf is an id that tells a name from others.
func idOf(name string) api.ID {
	id := api.ID{0xab, byte(len(name)), 31: 9}
	copy(id[2:30], name)
	return id
}

// named are refs of these names, each with its own id.
func named(names ...string) []api.Ref {
	var l []api.Ref
	for _, name := range names {
		l = append(l, api.Ref{Name: name, ID: idOf(name)})
	}
	return l
}

// ref is one of a name and an id that begins with this byte.
func ref(name string, first byte) api.Ref { return api.Ref{Name: name, ID: api.ID{first}} }

// numbered are n refs in order.
func numbered(n int) []api.Ref {
	var names []string
	for k := range n {
		names = append(names, "heads/n"+strconv.Itoa(1000+k))
	}
	return named(names...)
}

// with is a list with more behind it.
func with(l []api.Ref, more ...api.Ref) []api.Ref {
	return append(slices.Clone(l), more...)
}

// long is a name of so many bytes.
func long(n int) string { return strings.Repeat("n", n) }

// longPath is a path of 4 parts, or 5, of so many bytes, from 100 to 131.
func longPath(n int) string {
	return strings.Repeat(long(32)+"/", 3) + long(n-3*33)
}

// check is a list, and what is wrong with it.
type check struct {
	what string
	l    []api.Ref
	want api.Errno
}

// right are tables.
var right = []check{
	{"none", nil, api.OK},
	{"an empty list", []api.Ref{}, api.OK},
	{"one", named("a"), api.OK},
	{"the example", named("heads/main", "tags/main"), api.OK},
	{"ids of noughts, and one id twice", []api.Ref{{Name: "a"}, {Name: "b"}}, api.OK},
	{"no directory", named("HEAD", "main"), api.OK},
	{"a directory and what lies under it", named("heads", "heads/a", "heads/a/b"), api.OK},
	{"bytes, not parts", named("a", "a!", "a/b", "a0"), api.OK},
	{"bytes, not letters", named("!", "B", "a", "~"), api.OK},
	{"one name begins another one", named("a", "ab", "abc"), api.OK},
	{"the longest name", named(long(31), long(32)), api.OK},
	{"the longest path", named(longPath(119), longPath(120)), api.OK},
	{"6 parts", named("a/b/c/d/e/f"), api.OK},
	{"63 refs", numbered(63), api.OK},
	{"64 refs", numbered(64), api.OK},
}

// wrong are lists that are none, by the first of what is wrong.
var wrong = []check{
	{"65 refs", numbered(65), api.ErrFull},
	{"1000 refs", numbered(1000), api.ErrFull},
	{"65 refs of noughts", make([]api.Ref, 65), api.ErrFull},
	{"65 refs, the last one no path", with(numbered(64), api.Ref{Name: "/"}), api.ErrFull},
	{"65 refs, one of them twice", with(numbered(64), numbered(1)...), api.ErrFull},
	{"65 refs that fall", with(named("z"), numbered(64)...), api.ErrFull},
	{"64 refs of noughts", make([]api.Ref, 64), api.ErrName},
	{"no name", named(""), api.ErrName},
	{"a stroke alone", named("/"), api.ErrName},
	{"a stroke ahead", named("/a"), api.ErrName},
	{"a stroke behind", named("a/"), api.ErrName},
	{"two strokes", named("a//b"), api.ErrName},
	{"a dot", named("."), api.ErrName},
	{"two dots as a part", named("a/../b"), api.ErrName},
	{"a blank", named("a b"), api.ErrName},
	{"a line's end", named("a\nb"), api.ErrName},
	{"a byte 13", named("a\r"), api.ErrName},
	{"a byte 255", named("\xff"), api.ErrName},
	{"a part of 33 bytes", named("a/" + long(33)), api.ErrName},
	{"121 bytes", named(longPath(121)), api.ErrName},
	{"7 parts", named("a/b/c/d/e/f/g"), api.ErrName},
	{"the last one is no path", named("a", "b", ""), api.ErrName},
	{"no path ahead of twice", named("a", "a", "//"), api.ErrName},
	{"no path ahead of order", named("b", "a", "a b"), api.ErrName},
	{"no path, twice", named("", ""), api.ErrName},
	{"twice", named("a", "a"), api.ErrTwice},
	{"twice, with two ids", []api.Ref{{Name: "a", ID: api.ID{1}}, {Name: "a", ID: api.ID{2}}}, api.ErrTwice},
	{"twice, far from one another", with(numbered(63), numbered(1)...), api.ErrTwice},
	{"twice ahead of order", named("b", "a", "b"), api.ErrTwice},
	{"twice behind another order", named("c", "b", "a", "a"), api.ErrTwice},
	{"twice in 64", with(numbered(63), numbered(63)[62]), api.ErrTwice},
	{"falling", named("b", "a"), api.ErrOrder},
	{"the last one falls", named("a", "c", "b"), api.ErrOrder},
	{"the first one falls", named("b", "a", "c"), api.ErrOrder},
	{"ids rise, names fall", []api.Ref{{Name: "b", ID: api.ID{1}}, {Name: "a", ID: api.ID{2}}}, api.ErrOrder},
	{"parts, not bytes", named("a/b", "a!"), api.ErrOrder},
	{"letters, not bytes", named("a", "B"), api.ErrOrder},
	{"a longer one ahead of what begins it", named("ab", "a"), api.ErrOrder},
	{"64 refs, the last two the other way round", with(numbered(62), numbered(64)[63], numbered(64)[62]), api.ErrOrder},
}

// isPath is what a path is, by the words of chapter 5.
func isPath(s string) bool {
	parts := strings.Split(s, "/")
	for _, part := range parts {
		if part == "" || len(part) > 32 || part == "." || part == ".." {
			return false
		}
		for _, c := range []byte(part) {
			if c < 33 || c > 126 {
				return false
			}
		}
	}
	return len(s) <= 120 && len(parts) <= 6
}

// checkModel is what Check says, by the words of the chapter.
func checkModel(l []api.Ref) api.Errno {
	if len(l) > 64 {
		return api.ErrFull
	}
	count := map[string]int{}
	most, sorted := 0, true
	for k, r := range l {
		if !isPath(r.Name) {
			return api.ErrName
		}
		count[r.Name]++
		most = max(most, count[r.Name])
		sorted = sorted && (k == 0 || l[k-1].Name < r.Name)
	}
	switch {
	case most > 1:
		return api.ErrTwice
	case !sorted:
		return api.ErrOrder
	}
	return api.OK
}

// anyNames are names of which many are one, lie under one another, or are no paths.
func anyNames(r *rand.Rand, n int) []string {
	l := make([]string, n)
	for k := range l {
		name := make([]byte, 1+r.Intn(4))
		for j := range name {
			name[j] = "ab/.!"[r.Intn(5)]
		}
		l[k] = string(name)
		if k > 0 && r.Intn(8) == 0 {
			l[k] = l[r.Intn(k)]
		}
	}
	return l
}

// anyList are refs of any names, with any ids.
func anyList(r *rand.Rand, n int) []api.Ref {
	l := named(anyNames(r, n)...)
	for k := range l {
		r.Read(l[k].ID[:])
	}
	return l
}

// anyTable is a table of so many refs at most.
func anyTable(r *rand.Rand, most int) []api.Ref {
	var l []api.Ref
	has := map[string]bool{}
	for _, x := range anyList(r, r.Intn(most+1)) {
		if isPath(x.Name) && !has[x.Name] {
			has[x.Name] = true
			l = append(l, x)
		}
	}
	sort.Slice(l, func(i, j int) bool { return l[i].Name < l[j].Name })
	return l
}

// P12.1: Check

func TestCheck(t *testing.T) {
	for _, x := range slices.Concat(right, wrong) {
		if e := refs.Check(x.l); e != x.want {
			t.Errorf("%s: %v, want %v", x.what, e, x.want)
		}
		if e := checkModel(x.l); e != x.want {
			t.Errorf("%s: the model says %v, want %v", x.what, e, x.want)
		}
	}
}

func TestCheckOfEachNumberOfRefs(t *testing.T) {
	for n := range 130 {
		want := api.OK
		if n > 64 {
			want = api.ErrFull
		}
		if e := refs.Check(numbered(n)); e != want {
			t.Errorf("%d refs: %v", n, e)
		}
	}
}

func TestCheckOfEachByte(t *testing.T) {
	for c := range 256 {
		want := api.ErrName
		if c >= 33 && c <= 126 {
			want = api.OK
		}
		if e := refs.Check(named("x" + string([]byte{byte(c)}) + "y")); e != want {
			t.Errorf("a name with the byte %d: %v", c, e)
		}
	}
}

func TestCheckAgainstModel(t *testing.T) {
	r := rand.New(rand.NewSource(12))
	told := map[api.Errno]int{}
	for range 20000 {
		l := anyList(r, r.Intn(5))
		if r.Intn(2) == 0 {
			l = anyTable(r, 8)
		}
		want := checkModel(l)
		if e := refs.Check(l); e != want {
			t.Fatalf("%v: %v, want %v", l, e, want)
		}
		told[want]++
	}
	for _, e := range []api.Errno{api.OK, api.ErrName, api.ErrTwice, api.ErrOrder} {
		if told[e] < 100 {
			t.Error(e, "was told", told[e], "times alone")
		}
	}
}

// P12.1: Put

// lineOf is a ref as a line, by the words of the chapter.
func lineOf(r api.Ref) string { return hex.EncodeToString(r.ID[:]) + " " + r.Name + "\n" }

// textOf are refs as lines, whatever they say.
func textOf(l []api.Ref) string {
	s := ""
	for _, r := range l {
		s += lineOf(r)
	}
	return s
}

func TestPut(t *testing.T) {
	var count api.ID
	for k := range count {
		count[k] = byte(8*k + 3)
	}
	for k, x := range []struct {
		l    []api.Ref
		want string
	}{
		{nil, ""},
		{[]api.Ref{}, ""},
		{[]api.Ref{{Name: "a"}}, "0000000000000000000000000000000000000000000000000000000000000000 a\n"},
		{
			[]api.Ref{{Name: "heads/main", ID: api.ID{0xab, 31: 0xf}}, {Name: "tags/v1", ID: count}},
			"ab0000000000000000000000000000000000000000000000000000000000000f heads/main\n" +
				"030b131b232b333b434b535b636b737b838b939ba3abb3bbc3cbd3dbe3ebf3fb tags/v1\n",
		},
	} {
		if b, e := refs.Put(x.l); string(b) != x.want || e != api.OK {
			t.Errorf("%d: %q, %v", k, b, e)
		}
	}
	for _, x := range right {
		if b, e := refs.Put(x.l); string(b) != textOf(x.l) || e != api.OK {
			t.Errorf("%s: %q, %v", x.what, b, e)
		}
	}
}

func TestPutRefusesWhatCheckDoes(t *testing.T) {
	for _, x := range wrong {
		if b, e := refs.Put(x.l); b != nil || e != x.want {
			t.Errorf("%s: %q, %v, want %v", x.what, b, e, x.want)
		}
	}
}

// P12.1: Get

func TestGet(t *testing.T) {
	for _, x := range right {
		if l, e := refs.Get([]byte(textOf(x.l))); !slices.Equal(l, x.l) || e != api.OK {
			t.Errorf("%s: %v, %v", x.what, l, e)
		}
	}
	for _, b := range [][]byte{nil, {}} {
		if l, e := refs.Get(b); len(l) != 0 || e != api.OK {
			t.Error("nothing:", l, e)
		}
	}
}

// Lines of any names have the form, so what they say is asked by Check.
func TestGetRefusesWhatCheckDoes(t *testing.T) {
	for _, x := range wrong {
		want := x.want
		for _, r := range x.l {
			if strings.Contains(r.Name, "\n") {
				want = api.ErrForm
			}
		}
		if l, e := refs.Get([]byte(textOf(x.l))); l != nil || e != want {
			t.Errorf("%s: %v, %v, want %v", x.what, l, e, want)
		}
	}
}

func TestGetRefuses(t *testing.T) {
	digits := strings.Repeat("0123456789abcdef", 4)
	good := digits + " a\n"
	for _, x := range []struct {
		b    string
		want api.Errno
	}{
		{"\n", api.ErrForm}, {" ", api.ErrForm}, {" \n", api.ErrForm}, {" a\n", api.ErrForm}, {"a\n", api.ErrForm}, {"\x00", api.ErrForm}, {"a a\n", api.ErrForm},
		{digits, api.ErrForm}, {digits + " ", api.ErrForm}, {digits + " a", api.ErrForm}, {digits + "\n", api.ErrForm}, {digits + "a\n", api.ErrForm}, {digits + "\ta\n", api.ErrForm}, {digits + "\na\n", api.ErrForm},
		{digits[1:] + " a\n", api.ErrForm}, {digits + "0 a\n", api.ErrForm}, {digits + digits + " a\n", api.ErrForm}, {" " + good, api.ErrForm}, {"0x" + digits[2:] + " a\n", api.ErrForm},
		{strings.ToUpper(digits) + " a\n", api.ErrForm}, {digits[:63] + "F a\n", api.ErrForm}, {digits[:63] + "g a\n", api.ErrForm}, {"+" + digits[1:] + " a\n", api.ErrForm},
		// Any name without a line's end has the form.
		{digits + " \n", api.ErrName}, {digits + "  \n", api.ErrName}, {digits + "  a\n", api.ErrName}, {digits + " a \n", api.ErrName}, {digits + " a\r\n", api.ErrName}, {digits + " a b\n", api.ErrName}, {digits + " \x00\xff\n", api.ErrName},
		{digits + " " + digits + "\n", api.ErrName}, {digits + " " + digits + " a\n", api.ErrName}, {digits + " " + long(100000) + "\n", api.ErrName}, {digits + " a//b\n", api.ErrName},
		// The form of all lines comes ahead of what any one says.
		{good + "\n", api.ErrForm}, {good + "x", api.ErrForm}, {good + " ", api.ErrForm}, {"\n" + good, api.ErrForm}, {good + good + "\n", api.ErrForm}, {digits + " //\n\n", api.ErrForm}, {digits + " b\n" + good + "x\n", api.ErrForm},
		{digits + " \n" + digits + " b", api.ErrForm}, {strings.Repeat(good, 65) + "\n", api.ErrForm}, {strings.Repeat(good, 1000) + digits + " a", api.ErrForm}, {textOf(numbered(64)) + digits + " z", api.ErrForm},
		// What Check says of them all.
		{good + good, api.ErrTwice}, {digits + " b\n" + good, api.ErrOrder}, {digits + " b\n" + good + digits + " /\n", api.ErrName}, {digits + " b\n" + good + good, api.ErrTwice},
		{strings.Repeat(good, 64), api.ErrTwice}, {strings.Repeat(good, 65), api.ErrFull}, {strings.Repeat(digits+" \n", 65), api.ErrFull}, {strings.Repeat(digits+" \n", 64), api.ErrName}, {textOf(numbered(3000)), api.ErrFull},
	} {
		if l, e := refs.Get([]byte(x.b)); l != nil || e != x.want {
			t.Errorf("%.200q: %v, %v, want %v", x.b, l, e, x.want)
		}
	}
}

// getModel is what Get says, by the words of the chapter: bytes behind the last
// line's end are no line.
func getModel(b string) ([]api.Ref, api.Errno) {
	var l []api.Ref
	lines := strings.Split(b, "\n")
	if lines[len(lines)-1] != "" {
		return nil, api.ErrForm
	}
	for _, line := range lines[:len(lines)-1] {
		if len(line) < 65 || line[64] != 32 || strings.ToLower(line[:64]) != line[:64] {
			return nil, api.ErrForm
		}
		id, err := hex.DecodeString(line[:64])
		if err != nil {
			return nil, api.ErrForm
		}
		l = append(l, api.Ref{Name: line[65:], ID: api.ID(id)})
	}
	if e := checkModel(l); e != api.OK {
		return nil, e
	}
	return l, api.OK
}

// getsAsModel asks Get, and tells its error.
func getsAsModel(t *testing.T, b string) api.Errno {
	t.Helper()
	want, wantE := getModel(b)
	l, e := refs.Get([]byte(b))
	if e != wantE || !slices.Equal(l, want) {
		t.Errorf("%.300q: %v, %v, want %v, %v", b, l, e, want, wantE)
	}
	return e
}

func TestGetOfEachCut(t *testing.T) {
	b := textOf(named("a", "heads/main", "tags/v1"))
	taken := 0
	for n := range len(b) + 1 {
		if getsAsModel(t, b[:n]) == api.OK {
			taken++
		}
		getsAsModel(t, b[n:])
		for k := range n {
			getsAsModel(t, b[:k]+b[n:])
		}
	}
	if taken != 4 {
		t.Error(taken, "heads were taken")
	}
}

func TestGetOfEachByteInEachPlace(t *testing.T) {
	b := textOf(named("a/b", "a/c"))
	told := map[api.Errno]int{}
	for at := range len(b) + 1 {
		for c := range 256 {
			told[getsAsModel(t, b[:at]+string([]byte{byte(c)})+b[at:])]++
			if at < len(b) {
				told[getsAsModel(t, b[:at]+string([]byte{byte(c)})+b[at+1:])]++
			}
		}
	}
	for _, e := range []api.Errno{api.OK, api.ErrForm, api.ErrName, api.ErrTwice, api.ErrOrder} {
		if told[e] == 0 {
			t.Error("nothing was answered by", e)
		}
	}
}

// spoilt is a text of which a few parts are turned, left out, put in or moved.
func spoilt(r *rand.Rand, b string) string {
	for range 1 + r.Intn(3) {
		at := r.Intn(len(b) + 1)
		to := min(len(b), at+r.Intn(3))
		switch r.Intn(5) {
		case 0:
			b = b[:at]
		case 1:
			b = b[at:] + b[:at]
		case 2:
			b = b[:at] + string("0f \n\r/ab\xff"[r.Intn(9)]) + b[to:]
		case 3:
			b = b[:at] + b[to:]
		case 4:
			b += lineOf(api.Ref{Name: b[at:to]})
		}
	}
	return b
}

func TestGetAgainstModel(t *testing.T) {
	r := rand.New(rand.NewSource(121))
	told := map[api.Errno]int{}
	for range 30000 {
		l := anyTable(r, 6)
		if r.Intn(4) == 0 {
			l = anyList(r, r.Intn(4))
		}
		b := textOf(l)
		if r.Intn(3) > 0 {
			b = spoilt(r, b)
		}
		told[getsAsModel(t, b)]++
		if t.Failed() {
			return
		}
	}
	for _, e := range []api.Errno{api.OK, api.ErrForm, api.ErrName, api.ErrTwice, api.ErrOrder} {
		if told[e] < 100 {
			t.Error(e, "was told", told[e], "times alone")
		}
	}
}

// P12.2: Find

func TestFind(t *testing.T) {
	// Nothing is refused: of several of one name the first one counts, in any order.
	l := []api.Ref{ref("c", 1), ref("b", 2), ref("b", 3), ref("a", 4), ref("c", 5), ref("", 6), ref("x//y", 7), ref("z", 0), ref("heads/z", 8)}
	for _, x := range []struct {
		name string
		want api.ID
		has  bool
	}{
		{"a", api.ID{4}, true}, {"b", api.ID{2}, true}, {"c", api.ID{1}, true}, {"", api.ID{6}, true}, {"x//y", api.ID{7}, true}, {"z", api.ID{}, true}, {"heads/z", api.ID{8}, true},
		{"d", api.ID{}, false}, {"a/", api.ID{}, false}, {"A", api.ID{}, false}, {"ab", api.ID{}, false}, {"x", api.ID{}, false}, {"heads", api.ID{}, false}, {" ", api.ID{}, false}, {long(1000), api.ID{}, false},
	} {
		if id, has := refs.Find(l, x.name); id != x.want || has != x.has {
			t.Errorf("%q: %v, %v", x.name, id, has)
		}
	}
	for _, empty := range [][]api.Ref{nil, {}} {
		for _, name := range []string{"", "a"} {
			if id, has := refs.Find(empty, name); has || id != (api.ID{}) {
				t.Errorf("%q in nothing: %v, %v", name, id, has)
			}
		}
	}
}

func TestFindInEachPlace(t *testing.T) {
	l := numbered(100)
	for k, r := range l {
		if id, has := refs.Find(l, r.Name); id != r.ID || !has {
			t.Errorf("%q: %v, %v", r.Name, id, has)
		}
		if id, has := refs.Find(l[:k], r.Name); has || id != (api.ID{}) {
			t.Errorf("%q in what stands ahead of it: %v, %v", r.Name, id, has)
		}
	}
}

// P12.2: Set

func TestSet(t *testing.T) {
	id := api.ID{1, 31: 2}
	for _, x := range []struct {
		l    []api.Ref
		name string
		want []api.Ref
	}{
		{nil, "a", []api.Ref{{Name: "a", ID: id}}},
		{[]api.Ref{}, "a", []api.Ref{{Name: "a", ID: id}}},
		{named("b", "d"), "a", with([]api.Ref{{Name: "a", ID: id}}, named("b", "d")...)},
		{named("b", "d"), "b", with([]api.Ref{{Name: "b", ID: id}}, named("d")...)},
		{named("b", "d"), "c", with(named("b"), with([]api.Ref{{Name: "c", ID: id}}, named("d")...)...)},
		{named("b", "d"), "d", with(named("b"), api.Ref{Name: "d", ID: id})},
		{named("b", "d"), "e", with(named("b", "d"), api.Ref{Name: "e", ID: id})},
		{named("a/b"), "a", with([]api.Ref{{Name: "a", ID: id}}, named("a/b")...)},
		{named("a", "a/b"), "a!", with(named("a"), with([]api.Ref{{Name: "a!", ID: id}}, named("a/b")...)...)},
		{named("heads/main"), "main", with(named("heads/main"), api.Ref{Name: "main", ID: id})},
		{numbered(64), "heads/n1000", with([]api.Ref{{Name: "heads/n1000", ID: id}}, numbered(64)[1:]...)},
		{numbered(64), "heads/n1063", with(numbered(63), api.Ref{Name: "heads/n1063", ID: id})},
		{numbered(63), "heads/n1063", with(numbered(63), api.Ref{Name: "heads/n1063", ID: id})},
		{numbered(63), "a", with([]api.Ref{{Name: "a", ID: id}}, numbered(63)...)},
	} {
		if l, e := refs.Set(x.l, x.name, id); !slices.Equal(l, x.want) || e != api.OK {
			t.Errorf("%q in %v: %v, %v", x.name, x.l, l, e)
		}
	}
}

func TestSetOfNoughts(t *testing.T) {
	want := []api.Ref{{Name: "a"}}
	for _, l := range [][]api.Ref{nil, want, named("a")} {
		if got, e := refs.Set(l, "a", api.ID{}); !slices.Equal(got, want) || e != api.OK {
			t.Errorf("%v: %v, %v", l, got, e)
		}
	}
}

func TestSetRefuses(t *testing.T) {
	for _, x := range []struct {
		l    []api.Ref
		name string
		want api.Errno
	}{
		{nil, "", api.ErrName}, {nil, "/", api.ErrName}, {nil, "a/", api.ErrName}, {nil, "a//b", api.ErrName}, {nil, "..", api.ErrName}, {nil, "a b", api.ErrName}, {nil, "a\n", api.ErrName},
		{nil, long(33), api.ErrName}, {nil, longPath(121), api.ErrName}, {nil, "a/b/c/d/e/f/g", api.ErrName}, {named("a"), "a/.", api.ErrName},
		{numbered(64), "", api.ErrName}, {numbered(64), "a b", api.ErrName},
		{numbered(64), "a", api.ErrFull}, {numbered(64), "z", api.ErrFull}, {numbered(64), "heads/n1001x", api.ErrFull},
		{numbered(65), "a", api.ErrFull}, {numbered(65), "", api.ErrFull}, {numbered(65), "heads/n1000", api.ErrFull},
		{named("b", "a"), "", api.ErrOrder}, {named("a", "a"), "/", api.ErrTwice}, {named("a", "a"), "a", api.ErrTwice}, {named("a", ""), "b", api.ErrName},
	} {
		if l, e := refs.Set(x.l, x.name, api.ID{1}); l != nil || e != x.want {
			t.Errorf("%q in %v: %v, %v, want %v", x.name, x.l, l, e, x.want)
		}
	}
	for _, x := range wrong {
		for _, name := range []string{"a", "b", "c", "heads/n1000", "zz"} {
			if l, e := refs.Set(x.l, name, api.ID{1}); l != nil || e != x.want {
				t.Errorf("%s: %q: %v, %v, want %v", x.what, name, l, e, x.want)
			}
		}
	}
}

func TestSetOfEachByte(t *testing.T) {
	for c := range 256 {
		name := "x" + string([]byte{byte(c)}) + "y"
		l, e := refs.Set(named("a"), name, idOf(name))
		if c < 33 || c > 126 {
			if l != nil || e != api.ErrName {
				t.Errorf("a name with the byte %d: %v, %v", c, l, e)
			}
		} else if !slices.Equal(l, named("a", name)) || e != api.OK {
			t.Errorf("a name with the byte %d: %v, %v", c, l, e)
		}
	}
}

// P12.2: Drop

func TestDrop(t *testing.T) {
	for n := range 65 {
		l := numbered(n)
		for k, r := range l {
			want := slices.Concat(l[:k], l[k+1:])
			if got, e := refs.Drop(l, r.Name); !slices.Equal(got, want) || e != api.OK {
				t.Errorf("%q of %d refs: %v, %v", r.Name, n, got, e)
			}
		}
	}
	if got, e := refs.Drop(named("a", "a/b"), "a"); !slices.Equal(got, named("a/b")) || e != api.OK {
		t.Error("what lies under a name isn't left:", got, e)
	}
}

func TestDropRefuses(t *testing.T) {
	for _, l := range [][]api.Ref{nil, {}, named("a"), named("heads/z", "tags/z"), numbered(64)} {
		for _, name := range []string{"", "A", "a/", "aa", "heads", "heads/", "heads/n1", "z", "zz", "a b", "//", "\n", long(1000)} {
			if got, e := refs.Drop(l, name); got != nil || e != api.ErrRef {
				t.Errorf("%q of %v: %v, %v", name, l, got, e)
			}
		}
	}
	for _, x := range wrong {
		for _, name := range []string{"", "a", "b", "heads/n1000", "zz"} {
			if l, e := refs.Drop(x.l, name); l != nil || e != x.want {
				t.Errorf("%s: %q: %v, %v, want %v", x.what, name, l, e, x.want)
			}
		}
	}
}

// P12.3: Resolve

func TestResolve(t *testing.T) {
	for _, x := range []struct {
		names, word, want string // "": none
	}{
		{"heads/main tags/main", "main", "heads/main"},
		{"heads/main main tags/main", "main", "main"},
		{"main tags/main", "main", "main"},
		{"tags/main", "main", "tags/main"},
		{"heads/main", "main", "heads/main"},
		{"heads/main", "heads/main", "heads/main"},
		{"tags/main", "tags/main", "tags/main"},
		{"heads/main", "tags/main", ""},
		{"heads/heads/a tags/a", "heads/a", "heads/heads/a"},
		{"heads/a heads/heads/a", "heads/a", "heads/a"},
		{"heads/tags/a tags/a", "tags/a", "tags/a"},
		{"heads/tags/a", "tags/a", "heads/tags/a"},
		{"tags/heads/a", "heads/a", "tags/heads/a"},
		{"heads", "heads", "heads"},
		{"heads/tags", "tags", "heads/tags"},
		{"heads/a/b", "a/b", "heads/a/b"},
		{"heads/a/b", "a", ""},
		{"heads/a/b", "b", ""},
		{"tags/a/b/c/d/e", "a/b/c/d/e", "tags/a/b/c/d/e"},
		{"remotes/a", "a", ""},
		{"heads/a tags/a", "", ""},
		{"heads tags", "", ""},
		{"heads/a", "A", ""},
		{"heads/a", "a/", ""},
		{"heads/a", "/a", ""},
		{"heads/a", "a ", ""},
		{"heads/a", "\x00", ""},
		{"HEAD heads/HEAD", "HEAD", "HEAD"},
		{"", "a", ""},
		{"", "", ""},
	} {
		l := named(strings.Fields(x.names)...)
		want, wantE := api.Ref{}, api.ErrRef
		if x.want != "" {
			want, wantE = api.Ref{Name: x.want, ID: idOf(x.want)}, api.OK
		}
		if r, e := refs.Resolve(sorted(l), x.word); r != want || e != wantE {
			t.Errorf("%q of %q: %v, %v", x.word, x.names, r, e)
		}
	}
	if r, e := refs.Resolve(nil, long(100000)); r != (api.Ref{}) || e != api.ErrRef {
		t.Error("a long word:", r, e)
	}
}

// sorted are refs by their names.
func sorted(l []api.Ref) []api.Ref {
	l = slices.Clone(l)
	sort.Slice(l, func(i, j int) bool { return l[i].Name < l[j].Name })
	return l
}

func TestResolveTellsIDsOfNoughts(t *testing.T) {
	l := []api.Ref{{Name: "heads/a"}, {Name: "tags/a", ID: api.ID{1}}}
	if r, e := refs.Resolve(l, "a"); r != l[0] || e != api.OK {
		t.Error(r, e)
	}
}

func TestResolveRefusesWhatCheckDoes(t *testing.T) {
	for _, x := range wrong {
		for _, word := range []string{"", "a", "b", "n1000", "heads/n1000", "zz"} {
			if r, e := refs.Resolve(x.l, word); r != (api.Ref{}) || e != x.want {
				t.Errorf("%s: %q: %v, %v, want %v", x.what, word, r, e, x.want)
			}
		}
	}
}

func TestResolveAgainstModel(t *testing.T) {
	r := rand.New(rand.NewSource(123))
	ranks := map[int]int{}
	for range 5000 {
		names := map[string]bool{}
		for range r.Intn(12) {
			names[[]string{"", "heads/", "tags/", "other/"}[r.Intn(4)]+[]string{"a", "b", "heads/a", "tags/b"}[r.Intn(4)]] = true
		}
		var l []api.Ref
		for name := range names {
			l = append(l, named(name)...)
		}
		word := []string{"a", "b", "heads/a", "tags/b", "heads", ""}[r.Intn(6)]
		want, wantE := api.Ref{}, api.ErrRef
		for rank, name := range []string{word, "heads/" + word, "tags/" + word} {
			if names[name] {
				want, wantE = named(name)[0], api.OK
				ranks[rank]++
				break
			}
		}
		if got, e := refs.Resolve(sorted(l), word); got != want || e != wantE {
			t.Fatalf("%q of %v: %v, %v, want %v, %v", word, l, got, e, want, wantE)
		}
	}
	if ranks[0] < 100 || ranks[1] < 100 || ranks[2] < 100 {
		t.Error("found by each way:", ranks)
	}
}

// P12.3: Under

func TestUnder(t *testing.T) {
	l := named("a", "a!", "a/b", "a/b/c", "a0", "heads", "heads/main", "heads2", "tags/v1")
	for _, x := range []struct {
		dir  string
		want []api.Ref
	}{
		{"", l},
		{"a", named("a", "a/b", "a/b/c")},
		{"a/b", named("a/b", "a/b/c")},
		{"a/b/c", named("a/b/c")},
		{"heads", named("heads", "heads/main")},
		{"heads/main", named("heads/main")},
		{"tags", named("tags/v1")},
		{"a/", nil}, {"/", nil}, {"t", nil}, {"tags/", nil}, {"tags/v", nil}, {"main", nil}, {"head", nil}, {"A", nil}, {" ", nil}, {"a/b/c/d", nil}, {long(1000), nil},
	} {
		if got := refs.Under(l, x.dir); !slices.Equal(got, x.want) {
			t.Errorf("%q: %v", x.dir, got)
		}
	}
	for _, dir := range []string{"", "a"} {
		if got := refs.Under(nil, dir); len(got) != 0 {
			t.Errorf("%q of nothing: %v", dir, got)
		}
	}
}

// Under refuses nothing: names stay as they stood.
func TestUnderOfNoTable(t *testing.T) {
	l := []api.Ref{ref("b", 1), ref("a/z", 2), ref("a/", 3), ref("a/z", 4), ref("", 5), ref("a", 6), ref("a//b", 7)}
	if got := refs.Under(l, "a"); !slices.Equal(got, []api.Ref{l[1], l[2], l[3], l[5], l[6]}) {
		t.Error(got)
	}
	if got := refs.Under(l, ""); !slices.Equal(got, l) {
		t.Error(got)
	}
	if got := refs.Under(l, "a/"); !slices.Equal(got, []api.Ref{l[2], l[6]}) {
		t.Error(got)
	}
	if got := refs.Under(numbered(500), "heads"); !slices.Equal(got, numbered(500)) {
		t.Error("500 refs aren't all there")
	}
}

// P12.4

func TestGetOfPut(t *testing.T) {
	r := rand.New(rand.NewSource(124))
	for range 3000 {
		l := anyTable(r, 64)
		b, e := refs.Put(l)
		if string(b) != textOf(l) || e != api.OK {
			t.Fatalf("%v: %q, %v", l, b, e)
		}
		if got, e := refs.Get(b); !slices.Equal(got, l) || e != api.OK {
			t.Fatalf("%v became %v, %v", l, got, e)
		}
	}
}

func TestPutOfGet(t *testing.T) {
	r := rand.New(rand.NewSource(125))
	taken := 0
	for range 30000 {
		b := spoilt(r, textOf(anyTable(r, 4)))
		l, e := refs.Get([]byte(b))
		if e != api.OK {
			continue
		}
		taken++
		if again, e := refs.Put(l); string(again) != b || e != api.OK {
			t.Fatalf("%q became %q, %v", b, again, e)
		}
	}
	if taken < 1000 {
		t.Error("only", taken, "were taken")
	}
}

// setModel are the refs of a map, by their names.
func setModel(ids map[string]api.ID) []api.Ref {
	var l []api.Ref
	for name, id := range ids {
		l = append(l, api.Ref{Name: name, ID: id})
	}
	return sorted(l)
}

func TestSetAndDropInARow(t *testing.T) {
	r := rand.New(rand.NewSource(126))
	told := map[api.Errno]int{}
	for range 60 {
		var l []api.Ref
		ids := map[string]api.ID{}
		for range 300 {
			name := anyNames(r, 1)[0]
			id := api.ID{byte(r.Intn(256)), byte(r.Intn(256))}
			_, has := ids[name]
			var next []api.Ref
			e, want := api.OK, api.OK
			if r.Intn(5) > 0 {
				next, e = refs.Set(l, name, id)
				switch {
				case !isPath(name):
					want = api.ErrName
				case !has && len(ids) == 64:
					want = api.ErrFull
				default:
					ids[name] = id
				}
			} else {
				next, e = refs.Drop(l, name)
				if has {
					delete(ids, name)
				} else {
					want = api.ErrRef
				}
			}
			if e != want {
				t.Fatalf("%q of %v: %v, want %v", name, l, e, want)
			}
			told[e]++
			if e != api.OK {
				continue
			}
			l = next
			if !slices.Equal(l, setModel(ids)) {
				t.Fatalf("behind %q: %v, want %v", name, l, setModel(ids))
			}
			if found, has := refs.Find(l, name); found != ids[name] || has != slices.Contains(l, api.Ref{Name: name, ID: ids[name]}) {
				t.Fatalf("%q of %v: %v, %v", name, l, found, has)
			}
		}
	}
	for _, e := range []api.Errno{api.OK, api.ErrName, api.ErrRef, api.ErrFull} {
		if told[e] < 50 {
			t.Error(e, "was told", told[e], "times alone")
		}
	}
}

// R3

func TestListsAreLeft(t *testing.T) {
	whole := named("a", "c", "heads/c", "spare", "room", "too")
	kept := slices.Clone(whole)
	l := whole[:3]
	refs.Check(l)
	refs.Put(l)
	refs.Find(l, "c")
	for _, name := range []string{"", "Z", "a", "b", "c", "d", "heads/c", "z"} {
		refs.Set(l, name, api.ID{1})
		refs.Drop(l, name)
		refs.Resolve(l, name)
		refs.Under(l, name)
	}
	if !slices.Equal(whole, kept) {
		t.Error("a list that was handed in was changed:", whole)
	}
	b := []byte(textOf(kept[:2]) + "spare")
	refs.Get(b[:len(b)-5])
	refs.Get(b[:len(b)-6])
	refs.Get(b)
	if string(b) != textOf(kept[:2])+"spare" {
		t.Errorf("bytes that were handed in were changed: %q", b)
	}
}

func TestAnswersAreNew(t *testing.T) {
	l := named("a", "c", "heads/c")
	kept := slices.Clone(l)
	answers := func() [][]api.Ref {
		added, _ := refs.Set(l, "b", api.ID{1})
		turned, _ := refs.Set(l, "c", api.ID{1})
		same, _ := refs.Set(l, "c", idOf("c"))
		last, _ := refs.Drop(l, "heads/c")
		first, _ := refs.Drop(l, "a")
		return [][]api.Ref{added, turned, same, last, first, refs.Under(l, ""), refs.Under(l, "heads")}
	}
	one, other := answers(), answers()
	for _, x := range one {
		clear(x[:cap(x)])
	}
	if !slices.Equal(l, kept) {
		t.Error("an answer shares memory with a list that was handed in:", l)
	}
	for k, want := range answers() {
		if !slices.Equal(other[k], want) || len(want) == 0 {
			t.Errorf("answers share memory: %v, want %v", other[k], want)
		}
	}
}

func TestBytesAreNew(t *testing.T) {
	l := named("a", "c")
	b, _ := refs.Put(l)
	again, _ := refs.Put(l)
	got, _ := refs.Get(b)
	other, _ := refs.Get(b)
	clear(b[:cap(b)])
	if !slices.Equal(got, l) {
		t.Error("Get's refs share memory with the bytes:", got)
	}
	if !bytes.Equal(again, []byte(textOf(l))) {
		t.Errorf("two answers of Put share memory: %q", again)
	}
	clear(got[:cap(got)])
	if !slices.Equal(other, l) {
		t.Error("two answers of Get share memory:", other)
	}
}
