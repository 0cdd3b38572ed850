package route_test

import (
	"math/rand"
	"slices"
	"strings"
	"testing"

	"sleuth/route"
)

// long is a name of so many bytes.
func long(n int) string { return strings.Repeat("n", n) }

// most is a path of 120 bytes, which is as many as there may be.
var most = strings.Join([]string{long(32), long(32), long(32), long(10), long(10)}, "/")

// truth asks one question of many texts.
func truth(t *testing.T, what string, ask func(string) bool, want bool, texts ...string) {
	t.Helper()
	for _, s := range texts {
		if ask(s) != want {
			t.Errorf("%s(%q): want %v", what, s, want)
		}
	}
}

// P5.1

func TestName(t *testing.T) {
	truth(t, "Name", route.Name, true, "a", "a.go", "...", ".a", "a.", "..a", "!", "~", "*", "**", "?", "-", "\\", long(31), long(32))
	truth(t, "Name", route.Name, false, "", ".", "..", "/", "a/b", "/a", "a/", "a b", "a\n", "a\x00", "\x7f", "\x80", "ä", " ", long(33), long(1000))
}

func TestNameOfEachByte(t *testing.T) {
	for c := range 256 {
		want := c >= 33 && c <= 126 && c != '/'
		for _, s := range []string{"x" + string([]byte{byte(c)}), string([]byte{byte(c)}) + "x", "x" + string([]byte{byte(c)}) + "x"} {
			if route.Name(s) != want {
				t.Errorf("Name(%q): want %v", s, want)
			}
		}
	}
}

func TestRight(t *testing.T) {
	if len(most) != 120 {
		t.Fatal("most has", len(most))
	}
	truth(t, "Right", route.Right, true, "a", "a/b", "a/b/c/d/e/f", "...", ".a/b.", long(32), long(32)+"/"+long(32), most, "*/?/**")
	truth(t, "Right", route.Right, false, "", "/", "a/", "/a", "a//b", ".", "..", "a/.", "../a", "a/../b", "a/./b", "a/b/c/d/e/f/g",
		long(33), "a/"+long(33), most+"n", "a b", "a/b\n", "\x80/a", "a/\xff", strings.Repeat("a/", 500)+"a", strings.Repeat("/", 119))
}

func TestParts(t *testing.T) {
	for _, x := range []struct {
		s    string
		want []string
	}{
		{"", nil}, {"a", []string{"a"}}, {"a/b/c", []string{"a", "b", "c"}}, {"/", []string{"", ""}}, {"/a", []string{"", "a"}}, {"a/", []string{"a", ""}},
		{"a//b", []string{"a", "", "b"}}, {"\xff/ ", []string{"\xff", " "}}, {"1/2/3/4/5/6/7/8/9", strings.Split("123456789", "")},
	} {
		if got := route.Parts(x.s); !slices.Equal(got, x.want) {
			t.Errorf("Parts(%q) = %q", x.s, got)
		}
	}
}

func TestPartsAreNew(t *testing.T) {
	a, b := route.Parts("a/b"), route.Parts("a/b")
	a[0], a[1] = "x", "y"
	if !slices.Equal(b, []string{"a", "b"}) || !slices.Equal(route.Parts("a/b"), b) {
		t.Error("two answers share memory")
	}
}

func TestJoin(t *testing.T) {
	for _, x := range [][3]string{
		{"", "a", "a"}, {"a", "b", "a/b"}, {"a/b", "c", "a/b/c"}, {"", "", ""}, {"a", "", "a/"}, {"/", "a", "//a"}, {"a", "/b", "a//b"}, {"", "a/b", "a/b"}, {" ", "\xff", " /\xff"},
		{"**", long(40), "**/" + long(40)},
	} {
		if got := route.Join(x[0], x[1]); got != x[2] {
			t.Errorf("Join(%q, %q) = %q", x[0], x[1], got)
		}
	}
}

func TestDirAndBase(t *testing.T) {
	for _, x := range [][3]string{
		{"", "", ""}, {"a", "", "a"}, {"a/b", "a", "b"}, {"a/b/c", "a/b", "c"}, {"/", "", ""}, {"/a", "", "a"}, {"a/", "a", ""}, {"a//b", "a/", "b"}, {"//", "/", ""},
		{".", "", "."}, {"a/..", "a", ".."}, {"\xff /\n", "\xff ", "\n"},
	} {
		if dir, base := route.Dir(x[0]), route.Base(x[0]); dir != x[1] || base != x[2] {
			t.Errorf("%q: Dir %q, Base %q", x[0], dir, base)
		}
	}
}

func TestJoinOfDirAndBase(t *testing.T) {
	for _, s := range []string{"a", "a/b", "a/b/c", most} {
		if got := route.Join(route.Dir(s), route.Base(s)); got != s {
			t.Errorf("%q became %q", s, got)
		}
	}
}

// P5.2

func TestUnder(t *testing.T) {
	for _, x := range []struct {
		s, dir string
		want   bool
	}{
		{"a", "", true}, {"", "", true}, {"/", "", true}, {"a", "a", true}, {"a/b", "a", true}, {"a/b/c", "a", true}, {"a/b/c", "a/b", true}, {"a/", "a", true},
		{"ab", "a", false}, {"a", "a/b", false}, {"a", "b", false}, {"", "a", false}, {"b/a", "a", false}, {"a/bc", "a/b", false}, {"a", "a/", false}, {"a/b", "a/", false},
		{"a//b", "a/", true}, {"a/", "a/", true}, {"/a", "/", false}, {"//a", "/", true}, {"/", "/", true}, {"\xff/x", "\xff", true}, {"a.b", "a", false}, {"a", "A", false},
	} {
		if route.Under(x.s, x.dir) != x.want {
			t.Errorf("Under(%q, %q): want %v", x.s, x.dir, x.want)
		}
	}
}

// P5.3

func TestPattern(t *testing.T) {
	widest := strings.Repeat("x/", 7) + strings.Repeat("y", 106)
	truth(t, "Pattern", route.Pattern, true, "a", "*", "**", "?", "a/**/b", ".", "..", "a/./b", "***", "a**", "!/~", "1/2/3/4/5/6/7/8", strings.Repeat("x", 120), widest, long(33))
	truth(t, "Pattern", route.Pattern, false, "", "/", "a/", "/a", "a//b", "1/2/3/4/5/6/7/8/9", strings.Repeat("x", 121), widest+"y", "a b", "a\n", "\x80", "ä", "a/\x7f", "\x00", strings.Repeat("**/", 8)+"a", strings.Repeat("/", 120))
}

func TestPatternOfEachByte(t *testing.T) {
	for c := range 256 {
		s := "x" + string([]byte{byte(c)}) + "x"
		if route.Pattern(s) != (c >= 33 && c <= 126) {
			t.Errorf("Pattern(%q)", s)
		}
	}
}

// fit is one case of Fits.
type fit struct {
	pattern, s string
	want       bool
}

// fits are cases of Fits: plain ones, words, any parts, and wrong ones.
var fits = []fit{
	{"src/*.go", "src/a.go", true}, {"src/*.go", "src/a.c", false}, {"src/*.go", "a.go", false}, {"src/*.go", "src/a.go/b", true}, {"src/*.go", "src", false}, {"src", "src/a/b", true}, {"src", "srcs", false}, {"src/a/b", "src/a", false},
	{"*", "x/y", true}, {"*/*", "x", false}, {"*/*", "x/y", true}, {"*/b", "a/b", true}, {"*/b", "a/c/b", false}, {"?", "a", true}, {"?", "ab", false}, {"a?", "a", false}, {"?b", "ab/c", true}, {"??", "a/b", false},
	{"a*", "a", true}, {"a*", "abc", true}, {"*a", "ba", true}, {"*a", "bac", false}, {"*a*", "bac", true}, {"*a*", "b", false}, {"a*b*c", "aXbbYc", true}, {"a*b*c", "aXbbY", false}, {"*ab", "aab", true}, {"*ab", "abab", true},
	{"*ab*ba", "aba", false}, {"*ab*ba", "abba", true}, {"***", "a", true}, {"***a", "a", true}, {"a**", "a/b", true}, {"a**", "b", false}, {"**a", "xa", true}, {"**a", "x/a", false}, {"*?", "a", true}, {"*??", "a", false}, {"?*?", "ab", true},
	{"**", "q", true}, {"**/**", "q", true}, {"**", "a/b/c/d/e/f", true}, {"**/b", "a/c/b/d", true}, {"**/b", "b", true}, {"**/b", "a/c", false}, {"a/**", "a", true}, {"a/**", "b", false}, {"a/**", "a/b/c", true}, {"a/**/b", "a/b", true},
	{"a/**/b", "a/x/y/b/z", true}, {"a/**/b", "a", false}, {"a/**/b", "b", false}, {"**/a/**/b", "x/a/y/b", true}, {"**/a/**/b", "x/b/y/a", false}, {"**/**/a", "a", true}, {"**/*", "a", true}, {"**/*/*", "a", false}, {"**/*/*", "a/b", true},
	{"1/2/3/4/5/6/**/**", "1/2/3/4/5/6", true}, {"**/**/1/2/3/4/5/6", "1/2/3/4/5/6", true}, {"1/2/3/4/5/6/7", "1/2/3/4/5/6", false}, {"*/*/*/*/*/*/*/*", "1/2/3/4/5/6", false},
	{"A", "a", false}, {"a", "A", false}, {"a", "*", false}, {"*", "*", true}, {"a*b", "a*b", true}, {"?", "?", true}, {"?", "*", true}, {"**", "**", true}, {"x**", "x**", true}, {".", "a", false}, {"..", "a", false}, {".?", "..", false}, {".*", ".a", true},
	{"", "a", false}, {"a/", "a", false}, {"/a", "a", false}, {"a//b", "a/b", false}, {"a b", "a", false}, {"**/", "a", false}, {"1/2/3/4/5/6/**/**/**", "1/2/3/4/5/6", false},
	{"a", "", false}, {"**", "", false}, {"*", "", false}, {"a", "a/", false}, {"a", "a//b", false}, {"a", "/a", false}, {"**", "/", false}, {"**", "a b", false}, {"**", ".", false}, {"**", "a/..", false}, {"**", "1/2/3/4/5/6/7", false}, {"*", "\xff", false},
	{"", "", false}, {"**", long(33), false}, {"**", most, true}, {"**", most + "n", false}, {strings.Repeat("*", 120), long(32), true}, {strings.Repeat("*", 121), long(32), false}, {strings.Repeat("*a", 60), long(32), false},
}

func TestFits(t *testing.T) {
	for _, x := range fits {
		if route.Fits(x.pattern, x.s) != x.want {
			t.Errorf("Fits(%q, %q): want %v", x.pattern, x.s, x.want)
		}
	}
}

func TestIn(t *testing.T) {
	nine := []string{"1", "2", "3", "4", "5", "6", "7", "8", "a"}
	for _, x := range []struct {
		patterns []string
		s        string
		want     bool
	}{
		{nil, "a", true}, {[]string{}, "a/b", true}, {nil, "", false}, {nil, "a/", false}, {nil, "a//b", false}, {nil, "1/2/3/4/5/6/7", false},
		{[]string{"a"}, "a", true}, {[]string{"a"}, "a/b", true}, {[]string{"a"}, "b", false}, {[]string{"a", "b"}, "b", true}, {[]string{"b", "a"}, "b", true}, {[]string{"a", "c"}, "b", false},
		{[]string{""}, "a", false}, {[]string{"/", "a"}, "a", true}, {[]string{"a", "/"}, "a", true}, {[]string{"**"}, "a/", false}, {[]string{"**"}, "", false}, {nine, "a", true}, {nine, "b", false}, {nine, "8/x", true},
	} {
		if route.In(x.patterns, x.s) != x.want {
			t.Errorf("In(%q, %q): want %v", x.patterns, x.s, x.want)
		}
	}
}

func TestInIsOneThatFits(t *testing.T) {
	for _, x := range fits {
		if route.In([]string{x.pattern}, x.s) != x.want || route.In([]string{"/", x.pattern, "never"}, x.s) != x.want {
			t.Errorf("In(%q, %q): want %v", x.pattern, x.s, x.want)
		}
	}
}

// P5.4

func TestTouch(t *testing.T) {
	nine := []string{"1", "2", "3", "4", "5", "6", "7", "8", "a/b"}
	for _, x := range []struct {
		patterns []string
		dir      string
		want     bool
	}{
		{nil, "", true}, {nil, "a", true}, {nil, "a//", true}, {[]string{}, "\xff", true},
		{[]string{"a"}, "", true}, {[]string{"**"}, "", true}, {[]string{"a/b"}, "", true}, {[]string{""}, "", false}, {[]string{"a//b"}, "", false}, {[]string{"", "a"}, "", true}, {[]string{"a b", "/"}, "", false},
		{[]string{"src/*.go"}, "doc", false}, {[]string{"src/*.go"}, "src", true}, {[]string{"src/*.go"}, "src/a", false}, {[]string{"src/*.go"}, "src/a.go", true}, {[]string{"src/*.go"}, "src/a.go/b", true},
		{[]string{"a/**/x"}, "a/b/c", true}, {[]string{"a/**/x"}, "b", false}, {[]string{"a/**/x"}, "a", true}, {[]string{"a/**/x"}, "a/x/y", true}, {[]string{"a"}, "a/b", true}, {[]string{"a"}, "ab", false}, {[]string{"a/b/c"}, "a/b", true}, {[]string{"a/b/c"}, "a/c", false},
		{[]string{"**/b"}, "a", true}, {[]string{"**/b"}, "a/c/d", true}, {[]string{"**"}, "a", true}, {[]string{"**/**"}, "a/b", true}, {[]string{"*/b"}, "a", true}, {[]string{"*/b"}, "a/c", false}, {[]string{"*/**/b"}, "a/c", true}, {[]string{"a*/b"}, "ba", false},
		{[]string{"x", "a"}, "a", true}, {[]string{"a", "x"}, "a", true}, {[]string{"x", "y"}, "a", false}, {[]string{"/", "a/"}, "a", false}, {nine, "a", true}, {nine, "8", true}, {nine, "b", false}, {nine, "a/c", false},
		// A directory of any text is taken by its parts.
		{[]string{"*/b"}, "/b", true}, {[]string{"a"}, "a/", true}, {[]string{"a/*"}, "a/", true}, {[]string{"a/?"}, "a/", false}, {[]string{"a/b"}, "a//b", false}, {[]string{"a/*/b"}, "a//b", true}, {[]string{"a/**/b"}, "a//b", true}, {[]string{"*"}, "/", true}, {[]string{"?"}, "/", false},
		{[]string{"?"}, "\xff", true}, {[]string{"??"}, "ä", true}, {[]string{"?"}, "ä", false}, {[]string{"a*"}, "a b/c", true}, {[]string{"a"}, "a/../b", true}, {[]string{"*"}, long(500), true}, {[]string{"**/z"}, strings.Repeat("q/", 3000), true}, {[]string{"q/z"}, strings.Repeat("q/", 3000), false},
		{[]string{"1/2/3/4/5/6/7/8"}, "1/2/3/4/5/6/7", true}, {[]string{"1/2/3/4/5/6/7/8"}, "1/2/3/4/5/6/7/8/9", true}, {[]string{"1/2/3/4/5/6/7/8/9"}, "1", false},
	} {
		if route.Touch(x.patterns, x.dir) != x.want {
			t.Errorf("Touch(%q, %q): want %v", x.patterns, x.dir, x.want)
		}
	}
}

func TestPatternsAreLeft(t *testing.T) {
	whole := []string{"b", "a/**", "c", "spare"}
	patterns := whole[:3]
	route.In(patterns, "a/b")
	route.Touch(patterns, "a/b")
	if !slices.Equal(whole, []string{"b", "a/**", "c", "spare"}) {
		t.Error("the list that was handed in was changed:", whole)
	}
}

// The model says the same by the words alone: it tries all ways.

// wordFor asks whether a word stands for a part.
func wordFor(word, part string) bool {
	switch {
	case word == "":
		return part == ""
	case word[0] == '*':
		return wordFor(word[1:], part) || part != "" && wordFor(word, part[1:])
	}
	return part != "" && (word[0] == '?' || word[0] == part[0]) && wordFor(word[1:], part[1:])
}

// standsFor asks whether a pattern's parts stand for parts, all of both.
func standsFor(pattern, parts []string) bool {
	switch {
	case len(pattern) == 0:
		return len(parts) == 0
	case pattern[0] == "**":
		return standsFor(pattern[1:], parts) || len(parts) > 0 && standsFor(pattern, parts[1:])
	}
	return len(parts) > 0 && wordFor(pattern[0], parts[0]) && standsFor(pattern[1:], parts[1:])
}

// parts are a text's.
func parts(s string) []string {
	if s == "" {
		return nil
	}
	return strings.Split(s, "/")
}

// plainFits is what Fits says of a pattern and a path that are right.
func plainFits(pattern, s string) bool {
	p, all := parts(pattern), parts(s)
	for n := 1; n <= len(all); n++ {
		if standsFor(p, all[:n]) {
			return true
		}
	}
	return false
}

// plainTouch is what Touch says of a pattern that is right.
func plainTouch(pattern, dir string) bool {
	p, all := parts(pattern), parts(dir)
	alone := true
	for _, part := range p {
		alone = alone && part == "**"
	}
	if alone || plainFits(pattern, dir) {
		return true
	}
	for n := 0; n <= len(p); n++ {
		if standsFor(p[:n], all) {
			return true
		}
	}
	return false
}

// joined are all texts of 1 to most of these parts.
func joined(most int, parts ...string) []string {
	var all []string
	last := []string{""}
	for range most {
		var next []string
		for _, s := range last {
			for _, p := range parts {
				next = append(next, strings.TrimPrefix(s+"/"+p, "/"))
			}
		}
		all, last = append(all, next...), next
	}
	return all
}

func TestAgainstModel(t *testing.T) {
	paths := joined(4, "a", "b", "ab")
	for _, pattern := range joined(4, "a", "*", "**", "?", "a*") {
		for _, s := range paths {
			if want := plainFits(pattern, s); route.Fits(pattern, s) != want {
				t.Fatalf("Fits(%q, %q): want %v", pattern, s, want)
			}
			if want := plainTouch(pattern, s); route.Touch([]string{pattern}, s) != want {
				t.Fatalf("Touch(%q, %q): want %v", pattern, s, want)
			}
		}
	}
}

// texts are all of 0 to most of these bytes.
func texts(most int, bytes string) []string {
	all := []string{""}
	last := all
	for range most {
		var next []string
		for _, s := range last {
			for _, c := range bytes {
				next = append(next, s+string(c))
			}
		}
		all, last = append(all, next...), next
	}
	return all
}

func TestWordsAgainstModel(t *testing.T) {
	parts := texts(6, "ab")[1:]
	for _, word := range texts(5, "ab*?")[1:] {
		for _, part := range parts {
			if want := word == "**" || wordFor(word, part); route.Fits(word, part) != want {
				t.Fatalf("Fits(%q, %q): want %v", word, part, want)
			}
		}
	}
}

// P5.5

func TestWhatFollows(t *testing.T) {
	patterns := joined(3, "a", "b", "*", "**", "?b", "b*")
	dirs := joined(3, "a", "b", "ab", "ba")
	for _, pattern := range patterns {
		for _, s := range dirs {
			if !route.Fits(pattern, s) {
				continue
			}
			for _, lower := range []string{"a", "zz/b", "a/b/c"} {
				if !route.Fits(pattern, route.Join(s, lower)) {
					t.Fatalf("%q fits %q, but not %q below", pattern, s, lower)
				}
			}
			for dir := route.Dir(s); ; dir = route.Dir(dir) {
				if !route.Touch([]string{pattern}, dir) {
					t.Fatalf("%q fits %q, and doesn't touch %q", pattern, s, dir)
				}
				if dir == "" {
					break
				}
			}
		}
	}
}

func TestUntouchedHasNothing(t *testing.T) {
	r := rand.New(rand.NewSource(5))
	patterns := joined(4, "a", "b", "*", "**", "?b", "b*")
	all := joined(5, "a", "b", "bb")
	for range 3000 {
		some := []string{patterns[r.Intn(len(patterns))], patterns[r.Intn(len(patterns))]}
		s := all[r.Intn(len(all))]
		for dir := s; dir != ""; dir = route.Dir(dir) {
			if !route.Touch(some, dir) && route.In(some, s) {
				t.Fatalf("%q don't touch %q, but %q is in", some, dir, s)
			}
		}
	}
}
