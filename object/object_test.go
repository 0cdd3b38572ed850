package object_test

import (
	"bytes"
	"crypto/sha256"
	"encoding/hex"
	"math"
	"math/rand"
	"regexp"
	"slices"
	"strconv"
	"strings"
	"testing"

	"sleuth/api"
	"sleuth/object"
	"sleuth/rev"
	"sleuth/tree"
)

// words are the kinds' words.
var words = map[int]string{1: "blob", 2: "tree", 3: "commit", 4: "tag"}

// notKinds are numbers that are no kinds.
var notKinds = []int{0, -1, 5, 6, -2, -3, -4, 255, 257, 258, 1 << 32, 1<<32 + 1, math.MaxInt, math.MinInt}

// long is a text of so many bytes.
func long(n int) string { return strings.Repeat("n", n) }

// digits64 are the digits of an id.
func digits64(id api.ID) string { return hex.EncodeToString(id[:]) }

// entry is one of a tree as bytes.
func entry(mode, name string, id api.ID) string { return mode + " " + name + "\x00" + string(id[:]) }

// threeEntries are a tree of a file, a directory and a file that can be run, in order.
var threeEntries = entry("1", "a.b", api.ID{1}) + entry("3", "a", api.ID{2, 31: 2}) + entry("2", "a0", api.ID{31: 3})

// many are n entries with names of so many bytes.
func many(n, size int) string {
	s := ""
	for k := range n {
		name := strconv.Itoa(1000 + k)
		s += entry("1", name+long(size-len(name)), api.ID{byte(k)})
	}
	return s
}

// commitOf is a commit of these parents as bytes.
func commitOf(author, text string, parents ...api.ID) string {
	s := "tree " + digits64(api.ID{0xab, 31: 1}) + "\n"
	for _, p := range parents {
		s += "parent " + digits64(p) + "\n"
	}
	return s + "author " + author + "\ntime 5\n\n" + text
}

// markOf is a tag as bytes.
func markOf(kind, name, time, text string) string {
	return "object " + digits64(api.ID{0xcd, 31: 4}) + "\nkind " + kind + "\nname " + name + "\ntime " + time + "\n\n" + text
}

// ids are n that differ.
func ids(n int) []api.ID {
	var l []api.ID
	for k := range n {
		l = append(l, api.ID{byte(k), 31: 7})
	}
	return l
}

// body is one case of Check: a body of a kind, and what is wrong with it.
type body struct {
	what string
	kind int
	body string
	want api.Errno
}

// right are bodies that may be.
var right = []body{
	{"an empty blob", api.Blob, "", api.OK},
	{"the example", api.Blob, "hi", api.OK},
	{"a byte 0", api.Blob, "\x00", api.OK},
	{"a blob like an object", api.Blob, "blob 2\x00hi", api.OK},
	{"a blob of any bytes", api.Blob, "\xff\x00\r\n\xc3(é", api.OK},
	{"a blob like a tree", api.Blob, threeEntries, api.OK},
	{"a blob like a commit", api.Blob, commitOf("ann", "x"), api.OK},
	{"a blob like a tag", api.Blob, markOf("3", "v1", "5", ""), api.OK},
	{"a blob of 9 bytes", api.Blob, long(9), api.OK},
	{"a blob of 10 bytes", api.Blob, long(10), api.OK},
	{"a blob of 999 bytes", api.Blob, long(999), api.OK},
	{"a blob of 1000 bytes", api.Blob, long(1000), api.OK},
	{"a blob of 3999 bytes", api.Blob, long(3999), api.OK},
	{"a blob of 4000 bytes", api.Blob, long(4000), api.OK},
	{"a tree without entries", api.Tree, "", api.OK},
	{"a tree of a file", api.Tree, entry("1", "a", api.ID{}), api.OK},
	{"a tree of three", api.Tree, threeEntries, api.OK},
	{"64 entries", api.Tree, many(64, 4), api.OK},
	{"a tree of 4000 bytes", api.Tree, many(60, 31) + entry("1", "2"+long(4), api.ID{}), api.OK},
	{"a commit without parents", api.Commit, commitOf("ann", "x"), api.OK},
	{"a commit without a text", api.Commit, commitOf("ann", ""), api.OK},
	{"a commit of a parent", api.Commit, commitOf("ann", "x\n\n\x00", ids(1)...), api.OK},
	{"a commit of 6 parents", api.Commit, commitOf(long(32), long(400), ids(6)...), api.OK},
	{"a tag of a blob", api.Tag, markOf("1", "v1", "0", ""), api.OK},
	{"a tag of a tree", api.Tag, markOf("2", "v1", "0", "x"), api.OK},
	{"a tag of a commit", api.Tag, markOf("3", long(32), "1099511627776", long(400)), api.OK},
	{"a tag of a tag", api.Tag, markOf("4", "v1", "5", "\n\x00"), api.OK},
}

// wrong are bodies that may not, by the first of what is wrong.
var wrong = []body{
	{"a blob of 4001 bytes", api.Blob, long(4001), api.ErrLong},
	{"a long blob", api.Blob, long(1 << 20), api.ErrLong},
	{"no mode", api.Tree, "x", api.ErrMode},
	{"mode 4", api.Tree, entry("4", "a", api.ID{}), api.ErrMode},
	{"a tree that is a commit", api.Tree, commitOf("ann", "x"), api.ErrMode},
	{"a tree that is a tag", api.Tree, markOf("3", "v1", "5", ""), api.ErrMode},
	{"a tree that is an object", api.Tree, "tree 0\x00", api.ErrMode},
	{"an entry without a name", api.Tree, entry("1", "", api.ID{}), api.ErrName},
	{"an entry with a stroke", api.Tree, entry("1", "a/b", api.ID{}), api.ErrName},
	{"an entry cut off", api.Tree, threeEntries[:len(threeEntries)-1], api.ErrEnd},
	{"a mode alone", api.Tree, "1", api.ErrEnd},
	{"65 entries", api.Tree, many(65, 4), api.ErrLong},
	{"an entry twice", api.Tree, entry("1", "a", api.ID{}) + entry("2", "a", api.ID{}), api.ErrTwice},
	{"entries that fall", api.Tree, entry("1", "b", api.ID{}) + entry("1", "a", api.ID{}), api.ErrOrder},
	{"a directory as if it were a file", api.Tree, entry("3", "a", api.ID{}) + entry("1", "a.b", api.ID{}), api.ErrOrder},
	{"a tree of 4001 bytes", api.Tree, many(60, 31) + entry("1", "2"+long(5), api.ID{}), api.ErrLong},
	{"4000 bytes that are no tree", api.Tree, long(4000), api.ErrMode},
	{"4001 bytes that are no tree", api.Tree, long(4001), api.ErrLong},
	{"an empty commit", api.Commit, "", api.ErrForm},
	{"a commit that is a text", api.Commit, "x", api.ErrForm},
	{"a commit that is a tree", api.Commit, threeEntries, api.ErrForm},
	{"a commit that is a tag", api.Commit, markOf("3", "v1", "5", ""), api.ErrForm},
	{"a commit cut off", api.Commit, strings.TrimSuffix(commitOf("ann", ""), "\n"), api.ErrForm},
	{"7 parents", api.Commit, commitOf("ann", "", ids(7)...), api.ErrLong},
	{"a text of 401 bytes", api.Commit, commitOf("ann", long(401)), api.ErrLong},
	{"a parent twice", api.Commit, commitOf("ann", "", api.ID{1}, api.ID{1}), api.ErrTwice},
	{"no author", api.Commit, commitOf("", "x"), api.ErrName},
	{"a late time", api.Commit, strings.Replace(commitOf("ann", ""), "time 5", "time 1099511627777", 1), api.ErrArg},
	{"4000 bytes that are no commit", api.Commit, long(4000), api.ErrForm},
	{"4001 bytes that are no commit", api.Commit, long(4001), api.ErrLong},
	{"an author of 4000 bytes in all", api.Commit, commitOf(long(4000-len(commitOf("", ""))), ""), api.ErrName},
	{"an author of 4001 bytes in all", api.Commit, commitOf(long(4001-len(commitOf("", ""))), ""), api.ErrLong},
	{"an empty tag", api.Tag, "", api.ErrForm},
	{"a tag that is a text", api.Tag, "x", api.ErrForm},
	{"a tag that is a tree", api.Tag, threeEntries, api.ErrForm},
	{"a tag that is a commit", api.Tag, commitOf("ann", "x"), api.ErrForm},
	{"a tag of two digits", api.Tag, markOf("10", "v1", "5", ""), api.ErrForm},
	{"a tag of kind 0", api.Tag, markOf("0", "v1", "5", ""), api.ErrKind},
	{"a tag of kind 5", api.Tag, markOf("5", "v1", "5", ""), api.ErrKind},
	{"a tag without a name", api.Tag, markOf("3", "", "5", ""), api.ErrName},
	{"a late tag", api.Tag, markOf("3", "v1", "1099511627777", ""), api.ErrArg},
	{"a tag's text of 401 bytes", api.Tag, markOf("3", "v1", "5", long(401)), api.ErrLong},
	{"4000 bytes that are no tag", api.Tag, long(4000), api.ErrForm},
	{"4001 bytes that are no tag", api.Tag, long(4001), api.ErrLong},
}

// nameless are bodies of no kind: that is told first, whatever the body is.
func nameless() []body {
	var l []body
	for _, kind := range notKinds {
		for _, s := range []string{"", "hi", threeEntries, long(4000), long(4001)} {
			l = append(l, body{"kind " + strconv.Itoa(kind), kind, s, api.ErrKind})
		}
	}
	return l
}

// P8.1

func TestWord(t *testing.T) {
	for kind := -300; kind <= 300; kind++ {
		if got := object.Word(kind); got != words[kind] {
			t.Errorf("%d: %q", kind, got)
		}
	}
	for _, kind := range notKinds {
		if got := object.Word(kind); got != "" {
			t.Errorf("%d: %q", kind, got)
		}
	}
}

func TestKind(t *testing.T) {
	for kind, word := range words {
		if got := object.Kind(word); got != kind {
			t.Errorf("%q: %d", word, got)
		}
		for n := range len(word) {
			if got := object.Kind(word[:n]); got != 0 {
				t.Errorf("%q: %d", word[:n], got)
			}
			for c := range 256 {
				b := []byte(word)
				b[n] = byte(c)
				if got := object.Kind(string(b)); string(b) != word && got != 0 {
					t.Errorf("%q: %d", b, got)
				}
			}
		}
		for _, s := range []string{word + " ", " " + word, word + "s", word + "\x00", word + word, strings.ToUpper(word), strings.ToUpper(word[:1]) + word[1:], word[1:]} {
			if got := object.Kind(s); got != 0 {
				t.Errorf("%q: %d", s, got)
			}
		}
	}
	for _, s := range []string{"", " ", "\x00", "1", "3", "file", "dir", "rev", "mark", "object", "blob tree", long(1 << 20)} {
		if got := object.Kind(s); got != 0 {
			t.Errorf("%.40q: %d", s, got)
		}
	}
}

func TestCheck(t *testing.T) {
	for _, x := range slices.Concat(right, wrong, nameless()) {
		if e := object.Check(x.kind, []byte(x.body)); e != x.want {
			t.Errorf("%s: %v, want %v", x.what, e, x.want)
		}
	}
}

// TestCheckOfEachLength: the limit is one of all kinds, and it is asked for ahead of what the body tells.
func TestCheckOfEachLength(t *testing.T) {
	of := map[int]api.Errno{1: api.OK, 2: api.ErrMode, 3: api.ErrForm, 4: api.ErrForm}
	for n := 1; n <= 4100; n++ {
		for kind, want := range of {
			if n > 4000 {
				want = api.ErrLong
			}
			if e := object.Check(kind, []byte(long(n))); e != want {
				t.Errorf("%d bytes of kind %d: %v", n, kind, e)
			}
		}
	}
}

func TestCheckOfNothing(t *testing.T) {
	for _, nothing := range [][]byte{nil, {}} {
		for kind, want := range map[int]api.Errno{0: api.ErrKind, 1: api.OK, 2: api.OK, 3: api.ErrForm, 4: api.ErrForm, 5: api.ErrKind} {
			if e := object.Check(kind, nothing); e != want {
				t.Errorf("kind %d: %v", kind, e)
			}
		}
	}
}

// checkModel is what Check says, by the words of the chapter.
func checkModel(kind int, b []byte) api.Errno {
	if kind < 1 || kind > 4 {
		return api.ErrKind
	}
	if len(b) > 4000 {
		return api.ErrLong
	}
	var e api.Errno
	if kind == 2 {
		_, e = tree.Get(b)
	}
	if kind == 3 {
		_, e = rev.Get(b)
	}
	if kind == 4 {
		_, e = rev.GetMark(b)
	}
	return e
}

// TestCheckOfEachKind: each body is asked as each kind.
func TestCheckOfEachKind(t *testing.T) {
	for _, x := range slices.Concat(right, wrong) {
		for kind := -1; kind <= 6; kind++ {
			if e := object.Check(kind, []byte(x.body)); e != checkModel(kind, []byte(x.body)) {
				t.Errorf("%s as kind %d: %v", x.what, kind, e)
			}
		}
	}
}

// P8.2: Bytes and Name

// laid is an object as bytes, by the words of the chapter.
func laid(kind int, body string) string {
	return words[kind] + " " + strconv.Itoa(len(body)) + "\x00" + body
}

func TestBytesOfKnown(t *testing.T) {
	for _, x := range []struct {
		kind int
		body string
		want string
	}{
		{api.Blob, "hi", "blob 2\x00hi"},
		{api.Blob, "", "blob 0\x00"},
		{api.Blob, "\x00\xff", "blob 2\x00\x00\xff"},
		{api.Blob, "é", "blob 2\x00\xc3\xa9"},
		{api.Blob, "0123456789", "blob 10\x000123456789"},
		{api.Tree, "", "tree 0\x00"},
		{api.Tree, entry("1", "a", api.ID{}), "tree 36\x001 a\x00" + strings.Repeat("\x00", 32)},
		{api.Commit, commitOf("ann", "x"), "commit 90\x00tree ab" + strings.Repeat("0", 61) + "1\nauthor ann\ntime 5\n\nx"},
		{api.Tag, markOf("3", "v1", "5", ""), "tag 95\x00object cd" + strings.Repeat("0", 61) + "4\nkind 3\nname v1\ntime 5\n\n"},
	} {
		if b, e := object.Bytes(x.kind, []byte(x.body)); string(b) != x.want || e != api.OK {
			t.Errorf("%q: %q, %v", x.want, b, e)
		}
	}
}

func TestBytes(t *testing.T) {
	for _, x := range right {
		if b, e := object.Bytes(x.kind, []byte(x.body)); string(b) != laid(x.kind, x.body) || e != api.OK {
			t.Errorf("%s: %.100q, %v", x.what, b, e)
		}
	}
	for n := range 4001 {
		s := long(n)
		if b, e := object.Bytes(api.Blob, []byte(s)); string(b) != laid(1, s) || e != api.OK {
			t.Errorf("%d bytes: %.100q, %v", n, b, e)
		}
	}
}

func TestBytesRefusesWhatCheckDoes(t *testing.T) {
	for _, x := range slices.Concat(wrong, nameless()) {
		if b, e := object.Bytes(x.kind, []byte(x.body)); b != nil || e != x.want {
			t.Errorf("%s: %.100q, %v, want %v", x.what, b, e, x.want)
		}
	}
}

func TestNameOfKnown(t *testing.T) {
	for _, x := range []struct {
		kind int
		body string
		want string
	}{
		{api.Blob, "", "473a0f4c3be8a93681a267e3b1e9a7dcda1185436fe141f7749120a303721813"},
		{api.Tree, "", "6ef19b41225c5369f1c104d45d8d85efa9b057b53b14b4b9b939dd74decc5321"},
		{api.Blob, "hi", "a4e13f7dfd8345eae550125113b9d9bcd4b0f781037c02afb133fd98f5f973ae"},
	} {
		if id, e := object.Name(x.kind, []byte(x.body)); digits64(id) != x.want || e != api.OK {
			t.Errorf("%s %q: %s, %v", words[x.kind], x.body, digits64(id), e)
		}
	}
}

func TestName(t *testing.T) {
	seen := map[api.ID]string{}
	for _, x := range right {
		id, e := object.Name(x.kind, []byte(x.body))
		if want := sha256.Sum256([]byte(laid(x.kind, x.body))); id != want || e != api.OK {
			t.Errorf("%s: %v, %v", x.what, id, e)
		}
		if seen[id] != "" {
			t.Errorf("%s and %s have one id", x.what, seen[id])
		}
		seen[id] = x.what
	}
	for n := range 4001 {
		s := long(n)
		if id, e := object.Name(api.Blob, []byte(s)); id != sha256.Sum256([]byte(laid(1, s))) || e != api.OK {
			t.Errorf("%d bytes: %v, %v", n, id, e)
		}
	}
}

func TestNameRefusesWhatCheckDoes(t *testing.T) {
	for _, x := range slices.Concat(wrong, nameless()) {
		if id, e := object.Name(x.kind, []byte(x.body)); id != (api.ID{}) || e != x.want {
			t.Errorf("%s: %v, %v, want %v", x.what, id, e, x.want)
		}
	}
}

// P8.2: Split

// isSplit asks whether Split tells of bytes a kind, a body and an error.
func isSplit(t *testing.T, what, b string, kind int, body string, want api.Errno) {
	t.Helper()
	k, got, e := object.Split([]byte(b))
	if k != kind || string(got) != body || e != want || e != api.OK && got != nil {
		t.Errorf("%s: %.60q: %d, %.60q, %v, want %d, %.60q, %v", what, b, k, got, e, kind, body, want)
	}
}

func TestSplit(t *testing.T) {
	for _, x := range right {
		isSplit(t, x.what, laid(x.kind, x.body), x.kind, x.body, api.OK)
	}
	for n := range 4001 {
		isSplit(t, "a blob", laid(1, long(n)), api.Blob, long(n), api.OK)
	}
}

func TestSplitTellsChecksError(t *testing.T) {
	for _, x := range wrong {
		isSplit(t, x.what, laid(x.kind, x.body), 0, "", x.want)
	}
}

// TestSplitOfOtherHeads: what stands ahead of the byte 0 is of that form alone.
func TestSplitOfOtherHeads(t *testing.T) {
	for _, head := range []string{
		"", " ", "2", " 2", "hi", "blob", "blob ", "blob2", "blob  2", " blob 2", "blob 2 ", "blob\t2", "blob\n2", "blob 2\n", "blob 02", "blob 00", "blob 002", "blob +2", "blob -2", "blob 0x2", "blob 2.0", "blob 2e0", "blob a", "blob 2a", "blob two", "blob \xff", "blob 2 2", "blob 2,", "blob blob 2", "blob tree 2",
		"Blob 2", "BLOB 2", "blo 2", "blobs 2", "lob 2", "file 2", "rev 2", "mark 2", "object 2", "1 2", "tree", "tree ", "tree2", "commit", "commit2", "tag", "tag2", "tags 2", "2 blob", "2 ", "blob 1_0", "blob ２",
	} {
		isSplit(t, "a head", head+"\x00hi", 0, "", api.ErrForm)
		isSplit(t, "a head without a byte 0", head, 0, "", api.ErrForm)
		isSplit(t, "a head and blanks", head+" hi", 0, "", api.ErrForm)
	}
	for _, b := range [][]byte{nil, {}, {0}, {0, 0}, make([]byte, 5000)} {
		isSplit(t, "noughts", string(b), 0, "", api.ErrForm)
	}
}

// TestSplitOfOtherLengths: more, or fewer, bytes than the number are told ahead of what the body tells.
func TestSplitOfOtherLengths(t *testing.T) {
	for _, x := range []struct {
		b    string
		want api.Errno
	}{
		{"blob 3\x00hi", api.ErrEnd}, {"blob 1\x00hi", api.ErrForm}, {"blob 0\x00h", api.ErrForm}, {"blob 0\x00\x00", api.ErrForm}, {"blob 1\x00", api.ErrEnd}, {"blob 12\x00hi", api.ErrEnd}, {"blob 2\x00\x00hi", api.ErrForm}, {"blob 4\x00hi\x00", api.ErrEnd},
		{"blob 4000\x00" + long(3999), api.ErrEnd}, {"blob 4000\x00" + long(4001), api.ErrForm}, {"blob 4001\x00" + long(4000), api.ErrEnd}, {"blob 4001\x00" + long(4002), api.ErrForm}, {"blob 4001\x00" + long(4001), api.ErrLong}, {"blob 4001\x00", api.ErrEnd}, {"blob 0\x00" + long(4001), api.ErrForm},
		{"tree 1\x00x", api.ErrMode}, {"tree 1\x00xx", api.ErrForm}, {"tree 2\x00x", api.ErrEnd}, {"tree 0\x00x", api.ErrForm}, {"tree 35\x00" + entry("1", "a", api.ID{}), api.ErrForm}, {"tree 37\x00" + entry("1", "a", api.ID{}), api.ErrEnd},
		{"commit 0\x00", api.ErrForm}, {"commit 1\x00", api.ErrEnd}, {"commit 5000\x00x", api.ErrEnd}, {"commit 0\x00" + commitOf("ann", ""), api.ErrForm}, {"commit 4001\x00" + long(4001), api.ErrLong},
		{"tag 0\x00", api.ErrForm}, {"tag 1\x00", api.ErrEnd}, {"tag 3\x00xx", api.ErrEnd}, {"tag 96\x00" + markOf("9", "v1", "5", ""), api.ErrEnd}, {"tag 94\x00" + markOf("9", "v1", "5", ""), api.ErrForm}, {"tag 95\x00" + markOf("9", "v1", "5", ""), api.ErrKind},
	} {
		isSplit(t, "a length", x.b, 0, "", x.want)
	}
}

// TestSplitOfTheFirst20Bytes: the byte 0 is looked for among these, and the number has 15 digits at most.
func TestSplitOfTheFirst20Bytes(t *testing.T) {
	for _, word := range words {
		for n := 1; n <= 30; n++ {
			want := api.ErrEnd
			if n > 15 || len(word)+1+n+1 > 20 {
				want = api.ErrForm
			}
			for _, behind := range []string{"", "hi"} {
				isSplit(t, "a long number", word+" "+strings.Repeat("9", n)+"\x00"+behind, 0, "", want)
			}
			isSplit(t, "a long number", word+" 1"+strings.Repeat("0", n-1), 0, "", api.ErrForm)
		}
	}
	isSplit(t, "the last of 20 bytes", "tag 999999999999999\x00", 0, "", api.ErrEnd)
	isSplit(t, "behind 20 bytes", "blob 999999999999999\x00", 0, "", api.ErrForm)
	isSplit(t, "behind the last of 20 bytes", "commit 9999999999999\x00", 0, "", api.ErrForm)
	isSplit(t, "the last of 20 bytes", "commit 999999999999\x00", 0, "", api.ErrEnd)
}

func TestSplitOfEachCut(t *testing.T) {
	for _, x := range right {
		b := laid(x.kind, x.body)
		behind := len(b) - len(x.body)
		for n := 0; n < len(b); n = max(n+1, min(n+97, behind)) {
			want := api.ErrEnd
			if n < behind {
				want = api.ErrForm
			}
			isSplit(t, x.what, b[:n], 0, "", want)
		}
		for _, more := range []string{"\x00", "n", x.body + "\n", b} {
			isSplit(t, x.what, b+more, 0, "", api.ErrForm)
		}
	}
}

// headForm is what stands ahead of a body, as the library tells it.
var headForm = regexp.MustCompile(`\A(blob|tree|commit|tag) (0|[1-9][0-9]{0,14})\x00`)

// splitModel is what Split says, by the words of the chapter.
func splitModel(b []byte) (int, []byte, api.Errno) {
	p := headForm.FindSubmatch(b)
	if p == nil || len(p[0]) > 20 {
		return 0, nil, api.ErrForm
	}
	n, _ := strconv.Atoi(string(p[2]))
	body := b[len(p[0]):]
	if len(body) < n {
		return 0, nil, api.ErrEnd
	}
	if len(body) > n {
		return 0, nil, api.ErrForm
	}
	for kind, word := range words {
		if word != string(p[1]) {
			continue
		}
		if e := checkModel(kind, body); e != api.OK {
			return 0, nil, e
		}
		return kind, body, api.OK
	}
	return 0, nil, api.ErrForm
}

// isModel asks whether Split tells what splitModel does, and tells its error.
func isModel(t *testing.T, b []byte) api.Errno {
	t.Helper()
	kind, body, e := object.Split(b)
	if wantKind, want, wantE := splitModel(b); kind != wantKind || !bytes.Equal(body, want) || e != wantE {
		t.Fatalf("%q: %d, %q, %v, want %d, %q, %v", b, kind, body, e, wantKind, want, wantE)
	}
	return e
}

func TestSplitOfEachByteInEachPlace(t *testing.T) {
	for _, whole := range []string{laid(1, "hi"), laid(1, long(12)), laid(2, threeEntries), laid(3, commitOf("ann", "x", ids(1)...)), laid(4, markOf("3", "v1", "5", "x"))} {
		for at := range len(whole) {
			for c := range 256 {
				b := []byte(whole)
				b[at] = byte(c)
				isModel(t, b)
			}
		}
	}
}

// spoilt are bytes of which, at times, some are turned, taken out, put in or doubled.
func spoilt(r *rand.Rand, s string) []byte {
	b := []byte(s)
	for range r.Intn(3) {
		at := r.Intn(len(b))
		if r.Intn(2) == 0 {
			at %= 12
		}
		to := min(len(b), at+1+r.Intn(40))
		c := "\n \x000129abt/\xff"[r.Intn(12)]
		switch r.Intn(4) {
		case 0:
			b[at] = c
		case 1:
			b = slices.Delete(b, at, to)
		case 2:
			b = slices.Insert(b, at, c)
		case 3:
			b = slices.Insert(b, at, slices.Clone(b[at:to])...)
		}
		if len(b) < 12 {
			return b
		}
	}
	return b
}

// someObject is one as bytes, though its body may be wrong, or be told as another kind's, or as one of another length.
func someObject(r *rand.Rand) string {
	x := slices.Concat(right, right, wrong)[r.Intn(2*len(right)+len(wrong))]
	kind, body := x.kind, x.body
	if r.Intn(8) == 0 {
		kind = 1 + r.Intn(4)
	}
	if r.Intn(4) == 0 {
		body = string(spoilt(r, body+long(12)))
	}
	if r.Intn(8) == 0 {
		return words[kind] + " " + strconv.Itoa(max(0, len(body)+r.Intn(5)-2)) + "\x00" + body
	}
	return laid(kind, body)
}

func TestSplitAgainstModel(t *testing.T) {
	r := rand.New(rand.NewSource(81))
	seen := map[api.Errno]int{}
	for range 40000 {
		seen[isModel(t, spoilt(r, someObject(r)))]++
	}
	for _, e := range []api.Errno{api.OK, api.ErrForm, api.ErrEnd, api.ErrLong, api.ErrMode, api.ErrName, api.ErrTwice, api.ErrOrder, api.ErrKind, api.ErrArg} {
		if seen[e] < 20 {
			t.Errorf("%v came %d times only", e, seen[e])
		}
	}
}

// P8.3

func TestLinks(t *testing.T) {
	for _, x := range []struct {
		what string
		kind int
		body string
		want []object.Link
	}{
		{"an empty blob", api.Blob, "", nil},
		{"a blob", api.Blob, "hi", nil},
		{"a blob like a tree", api.Blob, threeEntries, nil},
		{"a blob like a commit", api.Blob, commitOf("ann", "x", ids(2)...), nil},
		{"a blob like a tag", api.Blob, markOf("3", "v1", "5", ""), nil},
		{"a blob of 4000 bytes", api.Blob, long(4000), nil},
		{"an empty tree", api.Tree, "", nil},
		{"a file", api.Tree, entry("1", "a", api.ID{5}), []object.Link{{api.ID{5}, 1}}},
		{"a file that can be run", api.Tree, entry("2", "a", api.ID{5}), []object.Link{{api.ID{5}, 1}}},
		{"a directory", api.Tree, entry("3", "a", api.ID{5}), []object.Link{{api.ID{5}, 2}}},
		{"a file and a directory of noughts", api.Tree, entry("1", "a", api.ID{}) + entry("3", "b", api.ID{}), []object.Link{{api.ID{}, 1}, {api.ID{}, 2}}},
		{"in the entries' order", api.Tree, threeEntries, []object.Link{{api.ID{1}, 1}, {api.ID{2, 31: 2}, 2}, {api.ID{31: 3}, 1}}},
		{"ids that fall", api.Tree, entry("1", "a", api.ID{9}) + entry("3", "b", api.ID{8}) + entry("1", "c", api.ID{7}), []object.Link{{api.ID{9}, 1}, {api.ID{8}, 2}, {api.ID{7}, 1}}},
		{"an id twice", api.Tree, entry("1", "a", api.ID{9}) + entry("1", "b", api.ID{9}) + entry("3", "c", api.ID{9}), []object.Link{{api.ID{9}, 1}, {api.ID{9}, 1}, {api.ID{9}, 2}}},
		{"a commit without parents", api.Commit, commitOf("ann", "x"), []object.Link{{api.ID{0xab, 31: 1}, 2}}},
		{"a commit of a tree of noughts", api.Commit, strings.Replace(commitOf("ann", "x"), digits64(api.ID{0xab, 31: 1}), digits64(api.ID{}), 1), []object.Link{{api.ID{}, 2}}},
		{"a commit of a parent", api.Commit, commitOf("ann", "x", api.ID{4}), []object.Link{{api.ID{0xab, 31: 1}, 2}, {api.ID{4}, 3}}},
		{"in the parents' order", api.Commit, commitOf("ann", "x", api.ID{6}, api.ID{}, api.ID{5}), []object.Link{{api.ID{0xab, 31: 1}, 2}, {api.ID{6}, 3}, {api.ID{}, 3}, {api.ID{5}, 3}}},
		{"a parent that is the tree", api.Commit, commitOf("ann", "x", api.ID{0xab, 31: 1}), []object.Link{{api.ID{0xab, 31: 1}, 2}, {api.ID{0xab, 31: 1}, 3}}},
		{"a tag of a blob", api.Tag, markOf("1", "v1", "5", ""), []object.Link{{api.ID{0xcd, 31: 4}, 1}}},
		{"a tag of a tree", api.Tag, markOf("2", "v1", "5", ""), []object.Link{{api.ID{0xcd, 31: 4}, 2}}},
		{"a tag of a commit", api.Tag, markOf("3", "v1", "5", ""), []object.Link{{api.ID{0xcd, 31: 4}, 3}}},
		{"a tag of a tag", api.Tag, markOf("4", "v1", "5", ""), []object.Link{{api.ID{0xcd, 31: 4}, 4}}},
	} {
		if l, e := object.Links(x.kind, []byte(x.body)); !slices.Equal(l, x.want) || e != api.OK {
			t.Errorf("%s: %v, %v", x.what, l, e)
		}
	}
}

func TestLinksOfMany(t *testing.T) {
	l, e := object.Links(api.Tree, []byte(many(64, 4)))
	if len(l) != 64 || e != api.OK {
		t.Fatal(len(l), e)
	}
	for k := range l {
		if l[k] != (object.Link{ID: api.ID{byte(k)}, Kind: api.Blob}) {
			t.Error(k, l[k])
		}
	}
	l, e = object.Links(api.Commit, []byte(commitOf("ann", "", ids(6)...)))
	if len(l) != 7 || e != api.OK {
		t.Fatal(len(l), e)
	}
	for k, id := range ids(6) {
		if l[1+k] != (object.Link{ID: id, Kind: api.Commit}) {
			t.Error(k, l[1+k])
		}
	}
}

func TestLinksRefusesWhatCheckDoes(t *testing.T) {
	for _, x := range slices.Concat(wrong, nameless()) {
		if l, e := object.Links(x.kind, []byte(x.body)); l != nil || e != x.want {
			t.Errorf("%s: %v, %v, want %v", x.what, l, e, x.want)
		}
	}
}

// linksModel is what Links says of a body that may be, by the words of the chapter.
func linksModel(kind int, b []byte) []object.Link {
	var l []object.Link
	switch kind {
	case 2:
		entries, _ := tree.Get(b)
		for _, x := range entries {
			l = append(l, object.Link{ID: x.ID, Kind: map[int]int{1: 1, 2: 1, 3: 2}[x.Mode]})
		}
	case 3:
		c, _ := rev.Get(b)
		l = append(l, object.Link{ID: c.Tree, Kind: 2})
		for _, id := range c.Parents {
			l = append(l, object.Link{ID: id, Kind: 3})
		}
	case 4:
		m, _ := rev.GetMark(b)
		l = append(l, object.Link{ID: m.Object, Kind: m.Kind})
	}
	return l
}

func TestLinksAgainstModel(t *testing.T) {
	r := rand.New(rand.NewSource(82))
	told := map[int]int{}
	for range 20000 {
		x := right[r.Intn(len(right))]
		b, kind := []byte(x.body), x.kind
		for range r.Intn(3) {
			if len(b) > 0 {
				b[r.Intn(len(b))] = "0123 ab\x00"[r.Intn(8)]
			}
		}
		l, e := object.Links(kind, b)
		wantE := checkModel(kind, b)
		var want []object.Link
		if wantE == api.OK {
			want = linksModel(kind, b)
			told[kind]++
		}
		if !slices.Equal(l, want) || e != wantE {
			t.Fatalf("%d, %q: %v, %v, want %v, %v", kind, b, l, e, want, wantE)
		}
	}
	for kind := range words {
		if told[kind] < 100 {
			t.Error("only", told[kind], "bodies of kind", kind)
		}
	}
}

// P8.4

func TestSplitOfBytes(t *testing.T) {
	r := rand.New(rand.NewSource(83))
	for range 20000 {
		x := right[r.Intn(len(right))]
		if x.kind == api.Blob {
			b := make([]byte, r.Intn(4001))
			r.Read(b)
			x.body = string(b)
		}
		b, e := object.Bytes(x.kind, []byte(x.body))
		if e != api.OK {
			t.Fatal(x.what, e)
		}
		if kind, body, e := object.Split(b); kind != x.kind || string(body) != x.body || e != api.OK {
			t.Fatalf("%q became %d, %q, %v", b, kind, body, e)
		}
	}
}

func TestBytesOfSplit(t *testing.T) {
	r := rand.New(rand.NewSource(84))
	taken := 0
	for range 40000 {
		b := spoilt(r, someObject(r))
		kind, body, e := object.Split(b)
		if e != api.OK {
			continue
		}
		taken++
		if again, e := object.Bytes(kind, body); !bytes.Equal(again, b) || e != api.OK {
			t.Fatalf("%q became %q, %v", b, again, e)
		}
		if id, e := object.Name(kind, body); id != sha256.Sum256(b) || e != api.OK {
			t.Fatalf("%q: %v, %v", b, id, e)
		}
	}
	if taken < 1000 {
		t.Error("only", taken, "were taken")
	}
}

// R1

func TestAnyBytesEnd(t *testing.T) {
	r := rand.New(rand.NewSource(85))
	for range 20000 {
		b := make([]byte, r.Intn(200))
		r.Read(b)
		kind := r.Intn(8) - 2
		if e := object.Check(kind, b); e != checkModel(kind, b) {
			t.Fatalf("%d, %q: %v", kind, b, e)
		}
		object.Bytes(kind, b)
		object.Name(kind, b)
		object.Links(kind, b)
		isModel(t, b)
		isModel(t, append([]byte(laid(1+r.Intn(4), string(b))), b[:r.Intn(len(b)+1)/20]...))
	}
	for _, s := range []string{long(1 << 22), strings.Repeat("\x00", 1<<22), strings.Repeat("blob ", 1<<20), "blob 4194304\x00" + long(1<<22)} {
		isModel(t, []byte(s))
	}
}

// R3 and R4

func TestBytesAreLeft(t *testing.T) {
	for _, x := range slices.Concat(right, wrong) {
		whole := laid(x.kind, x.body)
		b := []byte(whole + "spare")
		inner := b[len(whole)-len(x.body) : len(whole)]
		object.Check(x.kind, inner)
		object.Bytes(x.kind, inner)
		object.Name(x.kind, inner)
		object.Links(x.kind, inner)
		object.Split(b[:len(whole)])
		object.Split(b[:len(whole)-1])
		if string(b) != whole+"spare" {
			t.Errorf("%s: bytes that were handed in were changed", x.what)
		}
	}
}

func TestAnswersAreNew(t *testing.T) {
	for _, x := range right {
		body := []byte(x.body)
		b, _ := object.Bytes(x.kind, body)
		again, _ := object.Bytes(x.kind, body)
		l, _ := object.Links(x.kind, body)
		links, _ := object.Links(x.kind, body)
		_, got, _ := object.Split(b)
		_, other, _ := object.Split(b)
		clear(b)
		if string(body) != x.body || string(again) != laid(x.kind, x.body) {
			t.Errorf("%s: Bytes shares memory", x.what)
		}
		if string(got) != x.body {
			t.Errorf("%s: Split shares memory with the bytes", x.what)
		}
		clear(got[:cap(got)])
		if string(other) != x.body {
			t.Errorf("%s: two answers of Split share memory", x.what)
		}
		want := linksModel(x.kind, body)
		clear(body)
		if !slices.Equal(l, want) {
			t.Errorf("%s: Links shares memory with the bytes", x.what)
		}
		clear(l)
		if !slices.Equal(links, want) {
			t.Errorf("%s: two answers of Links share memory", x.what)
		}
	}
}

// TestSpareRoomIsOwn: what is laid behind an answer is not seen in another one.
func TestSpareRoomIsOwn(t *testing.T) {
	a, _ := object.Bytes(api.Blob, []byte("hi"))
	b, _ := object.Bytes(api.Blob, []byte("hi"))
	a, b = append(a, '1'), append(b, '2')
	if string(a) != "blob 2\x00hi1" || string(b) != "blob 2\x00hi2" {
		t.Errorf("%q, %q", a, b)
	}
	whole := []byte("blob 2\x00hispare")
	_, body, _ := object.Split(whole[:9])
	if _ = append(body, "turned"...); string(whole) != "blob 2\x00hispare" {
		t.Errorf("%q", whole)
	}
}
