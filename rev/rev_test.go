package rev_test

import (
	"bytes"
	"encoding/hex"
	"math"
	"math/rand"
	"regexp"
	"slices"
	"strconv"
	"strings"
	"testing"

	"sleuth/api"
	"sleuth/oid"
	"sleuth/rev"
)

// ids are n that differ.
func ids(n int) []api.ID {
	var l []api.ID
	for k := range n {
		l = append(l, api.ID{byte(k), byte(k >> 8), 2: 0xab, 31: 7})
	}
	return l
}

// long is a text of so many bytes.
func long(n int) string { return strings.Repeat("n", n) }

// hexOf are an id's digits, by the library.
func hexOf(id api.ID) string { return hex.EncodeToString(id[:]) }

// commit is one that may be.
func commit() api.Rev {
	return api.Rev{Tree: api.ID{1}, Parents: ids(2), Author: "ann", Time: 5, Text: "x\ny"}
}

// mark is a tag that may be.
func mark() api.Mark {
	return api.Mark{Object: api.ID{7}, Kind: api.Commit, Name: "v1", Time: 9, Text: "first\n"}
}

// check is one case of Check: what is changed of commit, and what is wrong then.
type check struct {
	what string
	turn func(c *api.Rev)
	want api.Errno
}

// rightRevs are commits that may be.
var rightRevs = []check{
	{"as it is", func(c *api.Rev) {}, api.OK},
	{"the example", func(c *api.Rev) { *c = api.Rev{Author: "ann", Time: 5, Text: "x"} }, api.OK},
	{"a tree of noughts", func(c *api.Rev) { c.Tree = api.ID{} }, api.OK},
	{"no parents", func(c *api.Rev) { c.Parents = nil }, api.OK},
	{"an empty list of parents", func(c *api.Rev) { c.Parents = []api.ID{} }, api.OK},
	{"a parent", func(c *api.Rev) { c.Parents = ids(1) }, api.OK},
	{"a parent of noughts", func(c *api.Rev) { c.Parents = []api.ID{{}} }, api.OK},
	{"a parent that is the tree", func(c *api.Rev) { c.Parents = []api.ID{c.Tree} }, api.OK},
	{"parents that fall", func(c *api.Rev) { c.Parents = []api.ID{{3}, {2}, {1}} }, api.OK},
	{"parents that differ in the last byte", func(c *api.Rev) { c.Parents = []api.ID{{31: 1}, {31: 2}} }, api.OK},
	{"6 parents", func(c *api.Rev) { c.Parents = ids(6) }, api.OK},
	{"an author of one byte", func(c *api.Rev) { c.Author = "a" }, api.OK},
	{"an author of 32 bytes", func(c *api.Rev) { c.Author = long(32) }, api.OK},
	{"an author of signs", func(c *api.Rev) { c.Author = "!~<>@..." }, api.OK},
	{"an author who is a word of a line", func(c *api.Rev) { c.Author = "parent" }, api.OK},
	{"time 0", func(c *api.Rev) { c.Time = 0 }, api.OK},
	{"time 1", func(c *api.Rev) { c.Time = 1 }, api.OK},
	{"one below the greatest time", func(c *api.Rev) { c.Time = 1<<40 - 1 }, api.OK},
	{"the greatest time", func(c *api.Rev) { c.Time = 1 << 40 }, api.OK},
	{"no text", func(c *api.Rev) { c.Text = "" }, api.OK},
	{"a text of 399 bytes", func(c *api.Rev) { c.Text = long(399) }, api.OK},
	{"a text of 400 bytes", func(c *api.Rev) { c.Text = long(400) }, api.OK},
	{"a text of lines' ends", func(c *api.Rev) { c.Text = "\n\n" }, api.OK},
	{"a text like lines", func(c *api.Rev) { c.Text = "author bob\ntime 6\n\nparent x" }, api.OK},
	{"a text of any bytes", func(c *api.Rev) { c.Text = "\x00\xff\r\n\xc3(é" }, api.OK},
}

// wrongRevs are commits that may not, by the first of what is wrong.
var wrongRevs = []check{
	{"7 parents", func(c *api.Rev) { c.Parents = ids(7) }, api.ErrLong},
	{"1000 parents", func(c *api.Rev) { c.Parents = ids(1000) }, api.ErrLong},
	{"a text of 401 bytes", func(c *api.Rev) { c.Text = long(401) }, api.ErrLong},
	{"a text of 400 signs of two bytes", func(c *api.Rev) { c.Text = strings.Repeat("é", 400) }, api.ErrLong},
	{"a long text", func(c *api.Rev) { c.Text = long(100000) }, api.ErrLong},
	{"7 parents, two of them one", func(c *api.Rev) { c.Parents = make([]api.ID, 7) }, api.ErrLong},
	{"too much of both", func(c *api.Rev) { c.Parents, c.Text = ids(7), long(401) }, api.ErrLong},
	{"7 parents, and all else is wrong", func(c *api.Rev) { *c = api.Rev{Parents: make([]api.ID, 7), Time: -1} }, api.ErrLong},
	{"a long text, and all else is wrong", func(c *api.Rev) { *c = api.Rev{Parents: make([]api.ID, 2), Time: -1, Text: long(401)} }, api.ErrLong},
	{"a parent twice", func(c *api.Rev) { c.Parents = []api.ID{{2}, {2}} }, api.ErrTwice},
	{"noughts twice", func(c *api.Rev) { c.Parents = make([]api.ID, 2) }, api.ErrTwice},
	{"the last parent twice", func(c *api.Rev) { c.Parents = []api.ID{{1}, {2}, {3}, {3}} }, api.ErrTwice},
	{"the first one of 6 is the last one", func(c *api.Rev) { c.Parents = append(ids(5), ids(1)...) }, api.ErrTwice},
	{"a parent in the midst is the last one", func(c *api.Rev) { c.Parents = []api.ID{{1}, {2}, {3}, {2}} }, api.ErrTwice},
	{"a parent six times", func(c *api.Rev) { c.Parents = make([]api.ID, 6) }, api.ErrTwice},
	{"a parent twice, and all behind it is wrong", func(c *api.Rev) { c.Parents, c.Author, c.Time = make([]api.ID, 2), "", -1 }, api.ErrTwice},
	{"no author", func(c *api.Rev) { c.Author = "" }, api.ErrName},
	{"nothing at all", func(c *api.Rev) { *c = api.Rev{} }, api.ErrName},
	{"an author of 33 bytes", func(c *api.Rev) { c.Author = long(33) }, api.ErrName},
	{"a blank in the author", func(c *api.Rev) { c.Author = "ann b" }, api.ErrName},
	{"a stroke in the author", func(c *api.Rev) { c.Author = "a/b" }, api.ErrName},
	{"a dot as the author", func(c *api.Rev) { c.Author = "." }, api.ErrName},
	{"two dots as the author", func(c *api.Rev) { c.Author = ".." }, api.ErrName},
	{"a line's end in the author", func(c *api.Rev) { c.Author = "a\nb" }, api.ErrName},
	{"a line's end behind the author", func(c *api.Rev) { c.Author = "a\n" }, api.ErrName},
	{"a time behind the author", func(c *api.Rev) { c.Author = "a\ntime 1" }, api.ErrName},
	{"a sign of two bytes in the author", func(c *api.Rev) { c.Author = "é" }, api.ErrName},
	{"no author, and the time is wrong", func(c *api.Rev) { c.Author, c.Time = "", 1<<40+1 }, api.ErrName},
	{"time -1", func(c *api.Rev) { c.Time = -1 }, api.ErrArg},
	{"one above the greatest time", func(c *api.Rev) { c.Time = 1<<40 + 1 }, api.ErrArg},
	{"the greatest number", func(c *api.Rev) { c.Time = math.MaxInt }, api.ErrArg},
	{"the least number", func(c *api.Rev) { c.Time = math.MinInt }, api.ErrArg},
}

// turned is commit with a case's change.
func (x check) turned() api.Rev {
	c := commit()
	x.turn(&c)
	return c
}

// checkMark is one case of CheckMark: what is changed of mark, and what is wrong then.
type checkMark struct {
	what string
	turn func(m *api.Mark)
	want api.Errno
}

// rightMarks are tags that may be.
var rightMarks = []checkMark{
	{"as it is", func(m *api.Mark) {}, api.OK},
	{"an object of noughts", func(m *api.Mark) { m.Object = api.ID{} }, api.OK},
	{"a blob", func(m *api.Mark) { m.Kind = 1 }, api.OK},
	{"a tree", func(m *api.Mark) { m.Kind = 2 }, api.OK},
	{"a tag", func(m *api.Mark) { m.Kind = 4 }, api.OK},
	{"a name of one byte", func(m *api.Mark) { m.Name = "v" }, api.OK},
	{"a name of 32 bytes", func(m *api.Mark) { m.Name = long(32) }, api.OK},
	{"a name that is a word of a line", func(m *api.Mark) { m.Name = "time" }, api.OK},
	{"time 0", func(m *api.Mark) { m.Time = 0 }, api.OK},
	{"the greatest time", func(m *api.Mark) { m.Time = 1 << 40 }, api.OK},
	{"no text", func(m *api.Mark) { m.Text = "" }, api.OK},
	{"a text of 400 bytes", func(m *api.Mark) { m.Text = long(400) }, api.OK},
	{"a text like lines", func(m *api.Mark) { m.Text = "name v2\ntime 6\n\n" }, api.OK},
	{"a text of any bytes", func(m *api.Mark) { m.Text = "\n\x00\xff\r" }, api.OK},
}

// wrongMarks are tags that may not, by the first of what is wrong.
var wrongMarks = []checkMark{
	{"a text of 401 bytes", func(m *api.Mark) { m.Text = long(401) }, api.ErrLong},
	{"a long text", func(m *api.Mark) { m.Text = long(100000) }, api.ErrLong},
	{"a long text, and all else is wrong", func(m *api.Mark) { *m = api.Mark{Text: long(401), Time: -1} }, api.ErrLong},
	{"kind 0", func(m *api.Mark) { m.Kind = 0 }, api.ErrKind},
	{"kind 5", func(m *api.Mark) { m.Kind = 5 }, api.ErrKind},
	{"kind -1", func(m *api.Mark) { m.Kind = -1 }, api.ErrKind},
	{"kind 10", func(m *api.Mark) { m.Kind = 10 }, api.ErrKind},
	{"kind 257", func(m *api.Mark) { m.Kind = 257 }, api.ErrKind},
	{"the greatest kind", func(m *api.Mark) { m.Kind = math.MaxInt }, api.ErrKind},
	{"the least kind", func(m *api.Mark) { m.Kind = math.MinInt }, api.ErrKind},
	{"nothing at all", func(m *api.Mark) { *m = api.Mark{} }, api.ErrKind},
	{"kind 0, and all behind it is wrong", func(m *api.Mark) { m.Kind, m.Name, m.Time = 0, "/", -1 }, api.ErrKind},
	{"no name", func(m *api.Mark) { m.Name = "" }, api.ErrName},
	{"a name of 33 bytes", func(m *api.Mark) { m.Name = long(33) }, api.ErrName},
	{"a stroke in the name", func(m *api.Mark) { m.Name = "tags/v1" }, api.ErrName},
	{"a blank in the name", func(m *api.Mark) { m.Name = "v 1" }, api.ErrName},
	{"a line's end in the name", func(m *api.Mark) { m.Name = "v\n1" }, api.ErrName},
	{"two dots as the name", func(m *api.Mark) { m.Name = ".." }, api.ErrName},
	{"no name, and the time is wrong", func(m *api.Mark) { m.Name, m.Time = "", -1 }, api.ErrName},
	{"time -1", func(m *api.Mark) { m.Time = -1 }, api.ErrArg},
	{"one above the greatest time", func(m *api.Mark) { m.Time = 1<<40 + 1 }, api.ErrArg},
	{"the greatest number", func(m *api.Mark) { m.Time = math.MaxInt }, api.ErrArg},
	{"the least number", func(m *api.Mark) { m.Time = math.MinInt }, api.ErrArg},
}

// turned is mark with a case's change.
func (x checkMark) turned() api.Mark {
	m := mark()
	x.turn(&m)
	return m
}

// P7.1

func TestCheck(t *testing.T) {
	for _, x := range slices.Concat(rightRevs, wrongRevs) {
		if e := rev.Check(x.turned()); e != x.want {
			t.Errorf("%s: %v, want %v", x.what, e, x.want)
		}
	}
}

func TestCheckMark(t *testing.T) {
	for _, x := range slices.Concat(rightMarks, wrongMarks) {
		if e := rev.CheckMark(x.turned()); e != x.want {
			t.Errorf("%s: %v, want %v", x.what, e, x.want)
		}
	}
}

func TestCheckOfEachNumberOfParents(t *testing.T) {
	for n := range 20 {
		c := commit()
		c.Parents = ids(n)
		want := api.OK
		if n > 6 {
			want = api.ErrLong
		}
		if e := rev.Check(c); e != want {
			t.Errorf("%d parents: %v", n, e)
		}
	}
}

func TestCheckOfEachTwoParents(t *testing.T) {
	for n := 2; n <= 6; n++ {
		for j := range n {
			for k := range j {
				c := commit()
				c.Parents = ids(n)
				c.Parents[j] = c.Parents[k]
				if e := rev.Check(c); e != api.ErrTwice {
					t.Errorf("of %d parents %d and %d are one: %v", n, k, j, e)
				}
			}
		}
	}
}

func TestCheckOfEachByte(t *testing.T) {
	for c := range 256 {
		want := api.ErrName
		if c >= 33 && c <= 126 && c != '/' {
			want = api.OK
		}
		name := "x" + string([]byte{byte(c)})
		if e := rev.Check(api.Rev{Author: name}); e != want {
			t.Errorf("an author with the byte %d: %v", c, e)
		}
		if e := rev.CheckMark(api.Mark{Kind: 1, Name: name}); e != want {
			t.Errorf("a name with the byte %d: %v", c, e)
		}
		text := string([]byte{byte(c)})
		if e := rev.Check(api.Rev{Author: "a", Text: text}); e != api.OK {
			t.Errorf("a commit's text of the byte %d: %v", c, e)
		}
		if e := rev.CheckMark(api.Mark{Kind: 1, Name: "a", Text: text}); e != api.OK {
			t.Errorf("a tag's text of the byte %d: %v", c, e)
		}
	}
}

func TestCheckMarkOfEachKind(t *testing.T) {
	for kind := -300; kind <= 300; kind++ {
		want := api.ErrKind
		if kind >= 1 && kind <= 4 {
			want = api.OK
		}
		m := mark()
		m.Kind = kind
		if e := rev.CheckMark(m); e != want {
			t.Errorf("kind %d: %v", kind, e)
		}
	}
}

// P7.2: Put

// put is a commit as bytes, by the words of the chapter.
func put(c api.Rev) string {
	s := "tree " + hexOf(c.Tree) + "\n"
	for _, p := range c.Parents {
		s += "parent " + hexOf(p) + "\n"
	}
	return s + "author " + c.Author + "\ntime " + strconv.Itoa(c.Time) + "\n\n" + c.Text
}

// putMark is a tag as bytes.
func putMark(m api.Mark) string {
	return "object " + hexOf(m.Object) + "\nkind " + strconv.Itoa(m.Kind) + "\nname " + m.Name + "\ntime " + strconv.Itoa(m.Time) + "\n\n" + m.Text
}

func TestPutOfTheExample(t *testing.T) {
	want := "tree 0000000000000000000000000000000000000000000000000000000000000000\nauthor ann\ntime 5\n\nx"
	if b, e := rev.Put(api.Rev{Author: "ann", Time: 5, Text: "x"}); string(b) != want || e != api.OK {
		t.Errorf("%q, %v", b, e)
	}
}

func TestPutOfKnownBytes(t *testing.T) {
	c := api.Rev{Tree: api.ID{0xab, 31: 1}, Parents: []api.ID{{0xf0}, {}}, Author: "a.b@c", Time: 1 << 40, Text: "why\n\n"}
	want := "tree ab00000000000000000000000000000000000000000000000000000000000001\n" +
		"parent f000000000000000000000000000000000000000000000000000000000000000\n" +
		"parent 0000000000000000000000000000000000000000000000000000000000000000\n" +
		"author a.b@c\ntime 1099511627776\n\nwhy\n\n"
	if b, e := rev.Put(c); string(b) != want || e != api.OK {
		t.Errorf("%q, %v", b, e)
	}
	m := api.Mark{Object: api.ID{0x12, 31: 0xef}, Kind: 4, Name: "v1.0", Time: 0, Text: "\nx"}
	want = "object 12000000000000000000000000000000000000000000000000000000000000ef\nkind 4\nname v1.0\ntime 0\n\n\nx"
	if b, e := rev.PutMark(m); string(b) != want || e != api.OK {
		t.Errorf("%q, %v", b, e)
	}
}

func TestPut(t *testing.T) {
	for _, x := range rightRevs {
		c := x.turned()
		if b, e := rev.Put(c); string(b) != put(c) || e != api.OK {
			t.Errorf("%s: %q, %v", x.what, b, e)
		}
	}
	for _, x := range rightMarks {
		m := x.turned()
		if b, e := rev.PutMark(m); string(b) != putMark(m) || e != api.OK {
			t.Errorf("%s: %q, %v", x.what, b, e)
		}
	}
}

func TestPutRefusesWhatCheckDoes(t *testing.T) {
	for _, x := range wrongRevs {
		if b, e := rev.Put(x.turned()); b != nil || e != x.want {
			t.Errorf("%s: %q, %v, want %v", x.what, b, e, x.want)
		}
	}
	for _, x := range wrongMarks {
		if b, e := rev.PutMark(x.turned()); b != nil || e != x.want {
			t.Errorf("%s: %q, %v, want %v", x.what, b, e, x.want)
		}
	}
}

// P7.2: Get

// same asks whether two commits are one, by the words of the chapter.
func same(a, b api.Rev) bool {
	if len(a.Parents) != len(b.Parents) {
		return false
	}
	for k := range a.Parents {
		if a.Parents[k] != b.Parents[k] {
			return false
		}
	}
	return a.Tree == b.Tree && a.Author == b.Author && a.Time == b.Time && a.Text == b.Text
}

func TestGet(t *testing.T) {
	for _, x := range rightRevs {
		want := x.turned()
		if c, e := rev.Get([]byte(put(want))); !same(c, want) || e != api.OK {
			t.Errorf("%s: %v, %v", x.what, c, e)
		}
	}
	for _, x := range rightMarks {
		want := x.turned()
		if m, e := rev.GetMark([]byte(putMark(want))); m != want || e != api.OK {
			t.Errorf("%s: %v, %v", x.what, m, e)
		}
	}
}

// tellable asks whether an author, or a name, and a time can be told by lines at all.
func tellable(name string, time int) bool {
	return !strings.Contains(name, "\n") && time >= 0 && time < 1e15
}

// TestGetTellsChecksError: what lines can tell is no other form, whatever it says.
func TestGetTellsChecksError(t *testing.T) {
	for _, x := range wrongRevs {
		c := x.turned()
		if !tellable(c.Author, c.Time) {
			continue
		}
		if got, e := rev.Get([]byte(put(c))); !same(got, api.Rev{}) || e != x.want {
			t.Errorf("%s: %v, %v, want %v", x.what, got, e, x.want)
		}
	}
	for _, x := range wrongMarks {
		m := x.turned()
		if !tellable(m.Name, m.Time) || m.Kind < 0 || m.Kind > 9 {
			continue
		}
		if got, e := rev.GetMark([]byte(putMark(m))); got != (api.Mark{}) || e != x.want {
			t.Errorf("%s: %v, %v, want %v", x.what, got, e, x.want)
		}
	}
}

// swap is one case of Get's forms: a line's place is taken by another text.
type swap struct {
	old, new string
	want     api.Errno
}

// zero64 are the digits of an id of noughts.
var zero64 = strings.Repeat("0", 64)

// commitLines are a commit's bytes in which swaps are made.
var commitLines = "tree " + zero64 + "\nparent a" + zero64[1:] + "\nauthor ann\ntime 5\n\nx"

// commitSwaps are swaps in them.
var commitSwaps = []swap{
	{"tree ", "tree  ", api.ErrForm}, {"tree ", "tree", api.ErrForm}, {"tree ", "Tree ", api.ErrForm}, {"tree ", " tree ", api.ErrForm}, {"tree ", "tree\t", api.ErrForm}, {"tree ", "object ", api.ErrForm}, {"tree ", "trees ", api.ErrForm}, {"tree ", "", api.ErrForm}, {"tree ", "\ntree ", api.ErrForm},
	{"tree " + zero64, "tree " + zero64[1:], api.ErrForm}, {"tree " + zero64, "tree " + zero64 + "0", api.ErrForm}, {"tree " + zero64, "tree ", api.ErrForm}, {"tree " + zero64, "tree " + zero64[:63] + "A", api.ErrForm}, {"tree " + zero64, "tree " + zero64[:63] + "g", api.ErrForm},
	{"tree " + zero64, "tree " + zero64 + " ", api.ErrForm}, {"tree " + zero64, "tree " + zero64 + "\r", api.ErrForm}, {"tree " + zero64, "tree " + zero64[1:] + " ", api.ErrForm}, {"tree " + zero64 + "\n", "", api.ErrForm}, {"tree " + zero64 + "\n", "tree " + zero64 + "\n\n", api.ErrForm}, {"tree " + zero64 + "\n", "tree " + zero64 + "\ntree " + zero64 + "\n", api.ErrForm}, {"tree " + zero64 + "\n", "tree " + zero64, api.ErrForm},
	{"parent a", "Parent a", api.ErrForm}, {"parent a", "parent  a", api.ErrForm}, {"parent a", "parenta", api.ErrForm}, {"parent a", "parents a", api.ErrForm}, {"parent a", "parent ", api.ErrForm}, {"parent a", "parent aa", api.ErrForm}, {"parent a", "parent A", api.ErrForm}, {"parent a", "parent g", api.ErrForm}, {"parent a", " parent a", api.ErrForm}, {"parent a", "parent \nparent a", api.ErrForm}, {"parent a", "parent\nparent a", api.ErrForm}, {"parent a", "\nparent a", api.ErrForm},
	{"author ann", "author", api.ErrForm}, {"author ann", "authorann", api.ErrForm}, {"author ann", "Author ann", api.ErrForm}, {"author ann", "author\tann", api.ErrForm}, {"author ann", "authors ann", api.ErrForm}, {"author ann", "name ann", api.ErrForm}, {"author ann", "ann", api.ErrForm}, {"author ann", "", api.ErrForm}, {"author ann\n", "", api.ErrForm}, {"author ann\n", "author ann", api.ErrForm}, {"author ann\n", "author ann\n\n", api.ErrForm}, {"author ann\n", "author ann\nauthor bob\n", api.ErrForm}, {"author ann\n", "author ann\nparent " + zero64 + "\n", api.ErrForm}, {"author ann\n", "author ann\nb\n", api.ErrForm},
	{"author ann", "author ", api.ErrName}, {"author ann", "author  ann", api.ErrName}, {"author ann", "author ann ", api.ErrName}, {"author ann", "author ann\r", api.ErrName}, {"author ann", "author a b", api.ErrName}, {"author ann", "author a/b", api.ErrName}, {"author ann", "author \x00", api.ErrName}, {"author ann", "author \xff", api.ErrName}, {"author ann", "author author ann", api.ErrName}, {"author ann", "author " + long(33), api.ErrName}, {"author ann", "author " + long(100000), api.ErrName},
	{"time 5", "time", api.ErrForm}, {"time 5", "time ", api.ErrForm}, {"time 5", "time5", api.ErrForm}, {"time 5", "Time 5", api.ErrForm}, {"time 5", "time  5", api.ErrForm}, {"time 5", "time 5 ", api.ErrForm}, {"time 5", "time 05", api.ErrForm}, {"time 5", "time 00", api.ErrForm}, {"time 5", "time -5", api.ErrForm}, {"time 5", "time +5", api.ErrForm}, {"time 5", "time 5.0", api.ErrForm}, {"time 5", "time 0x5", api.ErrForm}, {"time 5", "time a", api.ErrForm}, {"time 5", "time 5\r", api.ErrForm}, {"time 5", "times 5", api.ErrForm}, {"time 5", "", api.ErrForm}, {"time 5\n", "", api.ErrForm}, {"time 5\n", "time 5\ntime 5\n", api.ErrForm}, {"time 5\n", "time 5", api.ErrForm},
	{"time 5", "time 1000000000000000", api.ErrForm}, {"time 5", "time 9999999999999999999999", api.ErrForm}, {"time 5", "time 0000000000000005", api.ErrForm},
	{"time 5", "time 999999999999999", api.ErrArg}, {"time 5", "time 100000000000000", api.ErrArg}, {"time 5", "time 1099511627777", api.ErrArg}, {"time 5", "time 1099511627776", api.OK}, {"time 5", "time 0", api.OK},
	{"\n\nx", "\nx", api.ErrForm}, {"\n\nx", "\n \nx", api.ErrForm}, {"\n\nx", "\r\n\r\nx", api.ErrForm}, {"\n\nx", "\n\r\nx", api.ErrForm}, {"\n\nx", "\n", api.ErrForm}, {"\n\nx", "", api.ErrForm}, {"\n\nx", "\nx\n\n", api.ErrForm}, {"\n\nx", "\n\n", api.OK}, {"\n\nx", "\n\n\n", api.OK}, {"\n\nx", "\n\n\nx\n", api.OK}, {"\n\nx", "\n\n" + long(400), api.OK}, {"\n\nx", "\n\n" + long(401), api.ErrLong},
}

// markLines are a tag's bytes in which swaps are made.
var markLines = "object " + zero64 + "\nkind 3\nname v1\ntime 5\n\nx"

// markSwaps are swaps in them.
var markSwaps = []swap{
	{"object ", "object  ", api.ErrForm}, {"object ", "object", api.ErrForm}, {"object ", "Object ", api.ErrForm}, {"object ", "tree ", api.ErrForm}, {"object ", "", api.ErrForm}, {"object ", " object ", api.ErrForm}, {"object " + zero64, "object " + zero64[1:], api.ErrForm}, {"object " + zero64, "object " + zero64 + "0", api.ErrForm}, {"object " + zero64, "object F" + zero64[1:], api.ErrForm}, {"object " + zero64 + "\n", "object " + zero64, api.ErrForm}, {"object " + zero64 + "\n", "", api.ErrForm}, {"object " + zero64 + "\n", "object " + zero64 + "\n\n", api.ErrForm},
	{"kind 3", "kind", api.ErrForm}, {"kind 3", "kind ", api.ErrForm}, {"kind 3", "kind3", api.ErrForm}, {"kind 3", "Kind 3", api.ErrForm}, {"kind 3", "kind  3", api.ErrForm}, {"kind 3", "kind 3 ", api.ErrForm}, {"kind 3", "kind 03", api.ErrForm}, {"kind 3", "kind 33", api.ErrForm}, {"kind 3", "kind 10", api.ErrForm}, {"kind 3", "kind -3", api.ErrForm}, {"kind 3", "kind +3", api.ErrForm}, {"kind 3", "kind a", api.ErrForm}, {"kind 3", "kind commit", api.ErrForm}, {"kind 3", "kind \x03", api.ErrForm}, {"kind 3", "kind 3\r", api.ErrForm}, {"kind 3", "", api.ErrForm}, {"kind 3\n", "", api.ErrForm}, {"kind 3\n", "kind 3", api.ErrForm}, {"kind 3\n", "kind 3\nkind 3\n", api.ErrForm},
	{"kind 3", "kind 0", api.ErrKind}, {"kind 3", "kind 5", api.ErrKind}, {"kind 3", "kind 9", api.ErrKind}, {"kind 3", "kind 1", api.OK}, {"kind 3", "kind 4", api.OK},
	{"name v1", "name", api.ErrForm}, {"name v1", "namev1", api.ErrForm}, {"name v1", "Name v1", api.ErrForm}, {"name v1", "author v1", api.ErrForm}, {"name v1", "", api.ErrForm}, {"name v1\n", "", api.ErrForm}, {"name v1\n", "name v1", api.ErrForm}, {"name v1\n", "name v1\nname v2\n", api.ErrForm}, {"name v1\n", "name v1\n\n", api.ErrForm},
	{"name v1", "name ", api.ErrName}, {"name v1", "name  v1", api.ErrName}, {"name v1", "name v1 ", api.ErrName}, {"name v1", "name v1\r", api.ErrName}, {"name v1", "name tags/v1", api.ErrName}, {"name v1", "name " + long(33), api.ErrName}, {"name v1", "name \xff\x00", api.ErrName}, {"name v1", "name name v1", api.ErrName},
	{"time 5", "time", api.ErrForm}, {"time 5", "time ", api.ErrForm}, {"time 5", "time 05", api.ErrForm}, {"time 5", "time -1", api.ErrForm}, {"time 5", "time 1000000000000000", api.ErrForm}, {"time 5", "time 999999999999999", api.ErrArg}, {"time 5", "time 1099511627777", api.ErrArg}, {"time 5", "time 1099511627776", api.OK}, {"time 5\n", "", api.ErrForm},
	{"\n\nx", "\nx", api.ErrForm}, {"\n\nx", "\n", api.ErrForm}, {"\n\nx", "", api.ErrForm}, {"\n\nx", "\n \nx", api.ErrForm}, {"\n\nx", "\n\n", api.OK}, {"\n\nx", "\n\n\n\nx", api.OK}, {"\n\nx", "\n\n" + long(400), api.OK}, {"\n\nx", "\n\n" + long(401), api.ErrLong},
}

// made is a text with the swap in it.
func (x swap) made(t *testing.T, s string) []byte {
	if strings.Count(s, x.old) != 1 {
		t.Fatalf("%q is not just once in %q", x.old, s)
	}
	return []byte(strings.Replace(s, x.old, x.new, 1))
}

func TestGetOfOtherLines(t *testing.T) {
	for _, x := range commitSwaps {
		b := x.made(t, commitLines)
		c, e := rev.Get(b)
		if e != x.want || e != api.OK && !same(c, api.Rev{}) || e == api.OK && put(c) != string(b) {
			t.Errorf("%.40q in the place of %.40q: %v, %v, want %v", x.new, x.old, c, e, x.want)
		}
	}
	for _, x := range markSwaps {
		b := x.made(t, markLines)
		m, e := rev.GetMark(b)
		if e != x.want || e != api.OK && m != (api.Mark{}) || e == api.OK && putMark(m) != string(b) {
			t.Errorf("%.40q in the place of %.40q: %v, %v, want %v", x.new, x.old, m, e, x.want)
		}
	}
}

// TestGetAsksForTheFormFirst: what is wrong with what is told comes behind a line that is none, wherever this stands.
func TestGetAsksForTheFormFirst(t *testing.T) {
	parents := strings.Repeat("parent "+zero64+"\n", 7)
	for _, s := range []string{
		"tree " + zero64 + "\n" + parents + "author ann\ntime 5\nx",
		"tree " + zero64 + "\n" + parents + "author ann\ntime x\n\n",
		"tree " + zero64 + "\nauthor \ntime \n\n",
		"tree " + zero64 + "\nauthor a b\ntime 5\n",
		"tree " + zero64 + "\nauthor ann\ntime 999999999999999\nx",
		"tree " + zero64 + "\nauthor ann\ntime 05\n\n" + long(401),
		"tree x\n" + parents + "author \ntime 999999999999999\n\n" + long(401),
		"",
		"\n",
		"\n\n",
		"tree",
		"tree \n",
		markLines,
	} {
		if c, e := rev.Get([]byte(s)); e != api.ErrForm || !same(c, api.Rev{}) {
			t.Errorf("%.100q: %v, %v", s, c, e)
		}
	}
	for _, s := range []string{
		"object " + zero64 + "\nkind 9\nname v1\ntime 05\n\nx",
		"object " + zero64 + "\nkind 0\nname \ntime 5\nx",
		"object " + zero64 + "\nkind 3\nname a b\ntime x\n\n",
		"object x\nkind 9\nname \ntime 999999999999999\n\n" + long(401),
		"",
		"\n",
		"object",
		commitLines,
	} {
		if m, e := rev.GetMark([]byte(s)); e != api.ErrForm || m != (api.Mark{}) {
			t.Errorf("%.100q: %v, %v", s, m, e)
		}
	}
	for _, b := range [][]byte{nil, {}} {
		if c, e := rev.Get(b); e != api.ErrForm || !same(c, api.Rev{}) {
			t.Error(c, e)
		}
		if m, e := rev.GetMark(b); e != api.ErrForm || m != (api.Mark{}) {
			t.Error(m, e)
		}
	}
}

// TestGetTakesParentsOfAnyNumber: more than may be are no other form.
func TestGetTakesParentsOfAnyNumber(t *testing.T) {
	for n, want := range map[int]api.Errno{0: api.OK, 1: api.OK, 2: api.ErrTwice, 6: api.ErrTwice, 7: api.ErrLong, 5000: api.ErrLong} {
		s := "tree " + zero64 + "\n" + strings.Repeat("parent "+zero64+"\n", n) + "author ann\ntime 5\n\n"
		if c, e := rev.Get([]byte(s)); e != want || e == api.OK && len(c.Parents) != n {
			t.Errorf("%d parents: %v, %v", n, c, e)
		}
	}
}

func TestGetOfEachCut(t *testing.T) {
	c, m := commit(), mark()
	b := put(c)
	for n := range len(b) {
		got, e := rev.Get([]byte(b[:n]))
		cut := c
		if n < len(b)-len(c.Text) {
			if e != api.ErrForm || !same(got, api.Rev{}) {
				t.Errorf("the first %d bytes: %v, %v", n, got, e)
			}
			continue
		}
		cut.Text = c.Text[:n-(len(b)-len(c.Text))]
		if e != api.OK || !same(got, cut) {
			t.Errorf("the first %d bytes: %v, %v", n, got, e)
		}
	}
	b = putMark(m)
	for n := range len(b) - len(m.Text) {
		if got, e := rev.GetMark([]byte(b[:n])); e != api.ErrForm || got != (api.Mark{}) {
			t.Errorf("the first %d bytes: %v, %v", n, got, e)
		}
	}
	for n := 1; n < len(b); n++ {
		if got, e := rev.GetMark([]byte(b[n:])); e != api.ErrForm || got != (api.Mark{}) {
			t.Errorf("all but the first %d bytes: %v, %v", n, got, e)
		}
	}
}

// revForm and markForm are the forms, as the library tells them.
var (
	revForm  = regexp.MustCompile(`\Atree ([0-9a-f]{64})\n((?:parent [0-9a-f]{64}\n)*)author ([^\n]*)\ntime (0|[1-9][0-9]{0,14})\n\n((?s:.*))\z`)
	markForm = regexp.MustCompile(`\Aobject ([0-9a-f]{64})\nkind ([0-9])\nname ([^\n]*)\ntime (0|[1-9][0-9]{0,14})\n\n((?s:.*))\z`)
)

// idOf is the id of digits, by the library.
func idOf(digits []byte) api.ID {
	var id api.ID
	hex.Decode(id[:], digits)
	return id
}

// getModel is what Get says.
func getModel(b []byte) (api.Rev, api.Errno) {
	p := revForm.FindSubmatch(b)
	if p == nil {
		return api.Rev{}, api.ErrForm
	}
	c := api.Rev{Tree: idOf(p[1]), Author: string(p[3]), Text: string(p[5])}
	for row := range bytes.Lines(p[2]) {
		c.Parents = append(c.Parents, idOf(row[7:71]))
	}
	c.Time, _ = strconv.Atoi(string(p[4]))
	if e := rev.Check(c); e != api.OK {
		return api.Rev{}, e
	}
	return c, api.OK
}

// getMarkModel is what GetMark says.
func getMarkModel(b []byte) (api.Mark, api.Errno) {
	p := markForm.FindSubmatch(b)
	if p == nil {
		return api.Mark{}, api.ErrForm
	}
	m := api.Mark{Object: idOf(p[1]), Kind: int(p[2][0] - '0'), Name: string(p[3]), Text: string(p[5])}
	m.Time, _ = strconv.Atoi(string(p[4]))
	if e := rev.CheckMark(m); e != api.OK {
		return api.Mark{}, e
	}
	return m, api.OK
}

func TestGetOfEachByteInEachPlace(t *testing.T) {
	for at := range len(commitLines) {
		for c := range 256 {
			b := []byte(commitLines)
			b[at] = byte(c)
			got, e := rev.Get(b)
			if want, f := getModel(b); !same(got, want) || e != f {
				t.Fatalf("%q: %v, %v, want %v, %v", b, got, e, want, f)
			}
		}
	}
	for at := range len(markLines) {
		for c := range 256 {
			b := []byte(markLines)
			b[at] = byte(c)
			got, e := rev.GetMark(b)
			if want, f := getMarkModel(b); got != want || e != f {
				t.Fatalf("%q: %v, %v, want %v, %v", b, got, e, want, f)
			}
		}
	}
}

// someName is one that may be, or, at times, may not.
func someName(r *rand.Rand) string {
	return []string{"a", "ann", "b.c", long(32), "time", "parent", ".", "", "a b", long(33), "\xff"}[min(r.Intn(24), 10)]
}

// someTime is one that may be, or, at times, may not.
func someTime(r *rand.Rand) int {
	return []int{0, 9, 10, 1 << 40, 1<<40 + 1, 1e15 - 1, r.Intn(1<<40 + 1)}[min(r.Intn(30), 6)]
}

// someText is one that may be, or, at times, may not.
func someText(r *rand.Rand) string {
	return []string{"", "\n", "x", "x\n\ny", "time 5\n\n", "\x00\xff", long(400), long(401)}[r.Intn(8)]
}

// someRev is a commit that can be told by lines, though it may be wrong.
func someRev(r *rand.Rand) api.Rev {
	parents := ids(r.Intn(8))
	if len(parents) > 1 && r.Intn(8) == 0 {
		parents[r.Intn(len(parents))] = parents[r.Intn(len(parents))]
	}
	return api.Rev{Tree: api.ID{byte(r.Intn(256))}, Parents: parents, Author: someName(r), Time: someTime(r), Text: someText(r)}
}

// someMark is a tag that can be told by lines, though it may be wrong.
func someMark(r *rand.Rand) api.Mark {
	return api.Mark{Object: api.ID{byte(r.Intn(256))}, Kind: min(r.Intn(12), 9), Name: someName(r), Time: someTime(r), Text: someText(r)}
}

// spoilt are bytes of which, at times, some are turned, taken out, put in or doubled.
func spoilt(r *rand.Rand, s string) []byte {
	b := []byte(s)
	for range r.Intn(3) {
		at := r.Intn(len(b))
		to := min(len(b), at+1+r.Intn(80))
		c := "\n\n \x000159aft/\xff"[r.Intn(13)]
		switch r.Intn(4) {
		case 0:
			b[at] = c
		case 1:
			b = slices.Delete(b, at, to)
		case 2:
			b = slices.Insert(b, at, c)
		case 3:
			b = slices.Insert(b, at, slices.Clone(b[at:to])...)
		}
		if len(b) == 0 {
			return nil
		}
	}
	return b
}

func TestGetAgainstModel(t *testing.T) {
	r := rand.New(rand.NewSource(72))
	seen := map[api.Errno]int{}
	for range 40000 {
		b := spoilt(r, put(someRev(r)))
		got, e := rev.Get(b)
		if want, f := getModel(b); !same(got, want) || e != f {
			t.Fatalf("%q: %v, %v, want %v, %v", b, got, e, want, f)
		}
		seen[e]++
	}
	for _, e := range []api.Errno{api.OK, api.ErrForm, api.ErrLong, api.ErrTwice, api.ErrName, api.ErrArg} {
		if seen[e] < 100 {
			t.Errorf("%v came %d times only", e, seen[e])
		}
	}
}

func TestGetMarkAgainstModel(t *testing.T) {
	r := rand.New(rand.NewSource(73))
	seen := map[api.Errno]int{}
	for range 40000 {
		b := spoilt(r, putMark(someMark(r)))
		got, e := rev.GetMark(b)
		if want, f := getMarkModel(b); got != want || e != f {
			t.Fatalf("%q: %v, %v, want %v, %v", b, got, e, want, f)
		}
		seen[e]++
	}
	for _, e := range []api.Errno{api.OK, api.ErrForm, api.ErrLong, api.ErrKind, api.ErrName, api.ErrArg} {
		if seen[e] < 100 {
			t.Errorf("%v came %d times only", e, seen[e])
		}
	}
}

// P7.3

func TestNumber(t *testing.T) {
	for _, x := range []struct {
		s    string
		want int
	}{
		{"0", 0}, {"1", 1}, {"9", 9}, {"10", 10}, {"90", 90}, {"100", 100}, {"120", 120}, {"1234567890", 1234567890}, {"4294967296", 1 << 32}, {"1099511627776", 1 << 40},
		{"99999999999999", 1e14 - 1}, {"100000000000000", 1e14}, {"123456789012345", 123456789012345}, {"999999999999999", 1e15 - 1},
	} {
		if n, e := rev.Number(x.s); n != x.want || e != api.OK {
			t.Errorf("%q: %d, %v", x.s, n, e)
		}
	}
}

func TestNumberRefuses(t *testing.T) {
	for _, s := range []string{
		"", " ", "00", "01", "000000000000000", "0000000000000001", "1000000000000000", "9999999999999999", "18446744073709551616", long(100000), strings.Repeat("9", 100000), strings.Repeat("0", 16),
		"-1", "-0", "+1", "+", "-", " 1", "1 ", "1\n", "\n1", "1\x00", "1.0", "1e3", "1_000", "0x1", "0b1", "a", "1a", "a1", "/", ":", "1/", "1:", "\xff", "1\xb9", "١", "1²", "１",
	} {
		if n, e := rev.Number(s); n != 0 || e != api.ErrForm {
			t.Errorf("%.40q: %d, %v", s, n, e)
		}
	}
}

func TestNumberOfEachByteInEachPlace(t *testing.T) {
	for size := 1; size <= 17; size++ {
		for at := range size {
			for c := range 256 {
				b := bytes.Repeat([]byte{'7'}, size)
				b[at] = byte(c)
				right := size <= 15 && c >= '0' && c <= '9' && (c != '0' || at > 0 || size == 1)
				n, e := rev.Number(string(b))
				want, _ := strconv.Atoi(string(b))
				if right && (n != want || e != api.OK) || !right && (n != 0 || e != api.ErrForm) {
					t.Fatalf("%q: %d, %v", b, n, e)
				}
			}
		}
	}
}

func TestDigits(t *testing.T) {
	for _, x := range []struct {
		n    int
		want string
	}{
		{0, "0"}, {1, "1"}, {9, "9"}, {10, "10"}, {99, "99"}, {100, "100"}, {120, "120"}, {1 << 40, "1099511627776"}, {1e15 - 1, "999999999999999"}, {1e15, "1000000000000000"}, {math.MaxInt, strconv.FormatUint(math.MaxInt, 10)},
		{-1, ""}, {-9, ""}, {-120, ""}, {math.MinInt, ""}, {math.MinInt + 1, ""},
	} {
		if s := rev.Digits(x.n); s != x.want {
			t.Errorf("%d: %q", x.n, s)
		}
	}
}

func TestNumberOfDigits(t *testing.T) {
	r := rand.New(rand.NewSource(74))
	for k := range 20000 {
		n := r.Intn(1e15) >> r.Intn(50)
		if k < 2000 {
			n = k
		}
		s := rev.Digits(n)
		if got, e := rev.Number(s); got != n || e != api.OK || s != strconv.Itoa(n) {
			t.Fatalf("%d: %q, %d, %v", n, s, got, e)
		}
	}
}

func TestSame(t *testing.T) {
	for _, x := range slices.Concat(rightRevs, wrongRevs) {
		a, b := x.turned(), x.turned()
		if !rev.Same(a, b) || !rev.Same(a, a) {
			t.Errorf("%s: it isn't the same as itself", x.what)
		}
		if c := commit(); x.what != "as it is" && (rev.Same(a, c) || rev.Same(c, a)) {
			t.Errorf("%s: it is the same as another one", x.what)
		}
	}
	if !rev.Same(api.Rev{}, api.Rev{Parents: []api.ID{}}) || !rev.Same(api.Rev{Parents: []api.ID{}}, api.Rev{}) {
		t.Error("no parents aren't the same as an empty list of them")
	}
	if !rev.Same(api.Rev{Author: "/", Time: -1}, api.Rev{Author: "/", Time: -1}) {
		t.Error("one that may not be isn't the same as itself")
	}
}

func TestSameOfEachField(t *testing.T) {
	for k, turn := range []func(c *api.Rev){
		func(c *api.Rev) { c.Tree[0]++ },
		func(c *api.Rev) { c.Tree[31]++ },
		func(c *api.Rev) { c.Parents[0][31]++ },
		func(c *api.Rev) { c.Parents[1][0]++ },
		func(c *api.Rev) { c.Parents = c.Parents[:1] },
		func(c *api.Rev) { c.Parents = c.Parents[1:] },
		func(c *api.Rev) { c.Parents = nil },
		func(c *api.Rev) { c.Parents = append(c.Parents, api.ID{9}) },
		func(c *api.Rev) { c.Parents = append(c.Parents, api.ID{}) },
		func(c *api.Rev) { slices.Reverse(c.Parents) },
		func(c *api.Rev) { c.Author = "anna" },
		func(c *api.Rev) { c.Author = "Ann" },
		func(c *api.Rev) { c.Time++ },
		func(c *api.Rev) { c.Time = -c.Time },
		func(c *api.Rev) { c.Text += "\n" },
		func(c *api.Rev) { c.Text = "" },
		func(c *api.Rev) { c.Author, c.Text = c.Text, c.Author },
	} {
		a, b := commit(), commit()
		turn(&b)
		if rev.Same(a, b) || rev.Same(b, a) {
			t.Errorf("%d: %v is the same as %v", k, a, b)
		}
	}
}

// P7.4

func TestGetOfPut(t *testing.T) {
	r := rand.New(rand.NewSource(75))
	revs, marks := 0, 0
	for range 20000 {
		c, m := someRev(r), someMark(r)
		if b, e := rev.Put(c); e == api.OK {
			revs++
			if got, e := rev.Get(b); !rev.Same(got, c) || e != api.OK {
				t.Fatalf("%v became %v, %v", c, got, e)
			}
			if _, e := rev.GetMark(b); e != api.ErrForm {
				t.Fatalf("%v was taken as a tag: %v", c, e)
			}
		}
		if b, e := rev.PutMark(m); e == api.OK {
			marks++
			if got, e := rev.GetMark(b); got != m || e != api.OK {
				t.Fatalf("%v became %v, %v", m, got, e)
			}
			if _, e := rev.Get(b); e != api.ErrForm {
				t.Fatalf("%v was taken as a commit: %v", m, e)
			}
		}
	}
	if revs < 1000 || marks < 1000 {
		t.Error("only", revs, "commits and", marks, "tags were put")
	}
}

func TestPutOfGet(t *testing.T) {
	r := rand.New(rand.NewSource(76))
	revs, marks := 0, 0
	for range 40000 {
		b := spoilt(r, put(someRev(r)))
		if c, e := rev.Get(b); e == api.OK {
			revs++
			if again, e := rev.Put(c); !bytes.Equal(again, b) || e != api.OK {
				t.Fatalf("%q became %q, %v", b, again, e)
			}
		}
		b = spoilt(r, putMark(someMark(r)))
		if m, e := rev.GetMark(b); e == api.OK {
			marks++
			if again, e := rev.PutMark(m); !bytes.Equal(again, b) || e != api.OK {
				t.Fatalf("%q became %q, %v", b, again, e)
			}
		}
	}
	if revs < 1000 || marks < 1000 {
		t.Error("only", revs, "commits and", marks, "tags were taken")
	}
}

// R1

func TestAnyBytesEnd(t *testing.T) {
	r := rand.New(rand.NewSource(77))
	for range 20000 {
		b := make([]byte, r.Intn(200))
		r.Read(b)
		rev.Get(b)
		rev.GetMark(b)
		rev.Number(string(b))
	}
	for _, s := range []string{strings.Repeat("\n", 1<<20), strings.Repeat("tree ", 1<<18), "tree " + zero64 + "\n" + strings.Repeat("parent "+zero64+"\n", 1<<14), "tree " + zero64 + "\nauthor " + long(1<<20)} {
		if c, e := rev.Get([]byte(s)); e != api.ErrForm || !same(c, api.Rev{}) {
			t.Errorf("%.40q ..: %v", s, e)
		}
		if m, e := rev.GetMark([]byte(s)); e != api.ErrForm || m != (api.Mark{}) {
			t.Errorf("%.40q ..: %v", s, e)
		}
	}
}

// R3 and R4

func TestListsAreLeft(t *testing.T) {
	whole := []api.ID{{5}, {3}, {4}, {9}, {8}}
	kept := slices.Clone(whole)
	c := commit()
	c.Parents = whole[:3]
	rev.Check(c)
	rev.Put(c)
	rev.Same(c, c)
	if !slices.Equal(whole, kept) {
		t.Error("parents that were handed in were changed:", whole)
	}
	for _, s := range []string{commitLines, markLines} {
		b := []byte(s + "spare")
		rev.Get(b[:len(s)])
		rev.GetMark(b[:len(s)])
		rev.Get(b[:len(s)-2])
		rev.GetMark(b[:len(s)-2])
		if string(b) != s+"spare" {
			t.Errorf("bytes that were handed in were changed: %q", b)
		}
	}
}

func TestAnswersAreNew(t *testing.T) {
	c := commit()
	b, _ := rev.Put(c)
	again, _ := rev.Put(c)
	got, _ := rev.Get(b)
	other, _ := rev.Get(b)
	clear(b)
	if !same(got, c) || !same(c, commit()) {
		t.Error("Get's commit, or Put's, shares memory with the bytes")
	}
	if fromAgain, _ := rev.Get(again); !same(fromAgain, c) {
		t.Error("two answers of Put share memory")
	}
	clear(got.Parents)
	if !same(other, c) {
		t.Error("two answers of Get share memory")
	}
	b, _ = rev.PutMark(mark())
	againMark, _ := rev.PutMark(mark())
	gotMark, _ := rev.GetMark(b)
	clear(b)
	if gotMark != mark() {
		t.Error("GetMark's tag shares memory with the bytes")
	}
	if fromAgain, _ := rev.GetMark(againMark); fromAgain != mark() {
		t.Error("two answers of PutMark share memory")
	}
}

// TestErrorsLeaveNothing: a call that gave up says nothing of it to the next one.
func TestErrorsLeaveNothing(t *testing.T) {
	for range 3 {
		if _, e := rev.Get([]byte("tree x\n")); e != api.ErrForm {
			t.Error(e)
		}
		if c, e := rev.Get([]byte(commitLines)); e != api.OK || oid.Hex(c.Parents[0]) != "a"+zero64[1:] {
			t.Error(c, e)
		}
		if _, e := rev.GetMark([]byte("object x\n")); e != api.ErrForm {
			t.Error(e)
		}
		if m, e := rev.GetMark([]byte(markLines)); e != api.OK || m.Name != "v1" {
			t.Error(m, e)
		}
	}
}
