package pack_test

import (
	"bytes"
	"crypto/sha256"
	"encoding/binary"
	"hash/crc32"
	"math"
	"math/rand"
	"slices"
	"strconv"
	"strings"
	"testing"

	"sleuth/api"
	"sleuth/delta"
	"sleuth/object"
	"sleuth/pack"
	"sleuth/rev"
	"sleuth/tree"
)

// long is a text of so many bytes.
func long(n int) string { return strings.Repeat("n", n) }

// brief is the beginning of a text that may be long.
func brief[T string | []byte](s T) string { return strconv.Quote(string(s[:min(len(s), 200)])) }

// digits is a number of any size as bytes.
func digits(n int) string {
	if n < 128 {
		return string([]byte{byte(n)})
	}
	return string([]byte{byte(n%128) + 128}) + digits(n/128)
}

// four is a number as four bytes.
func four(n uint32) string { return string(binary.BigEndian.AppendUint32(nil, n)) }

// summed is a load with its sum ahead.
func summed(load string) string { return four(crc32.ChecksumIEEE([]byte(load))) + load }

// whole is the entry of an object that is whole.
func whole(kind int, body string) string {
	return string([]byte{byte(kind)}) + digits(len(body)) + summed(body)
}

// told is the entry of an object that is told by another one, whose entry begins so many bytes ahead.
func told(ahead int, load string) string {
	return "\x05" + digits(len(load)) + digits(ahead) + summed(load)
}

// head is what stands ahead of so many entries.
func head(n int) string { return "PACK" + four(1) + four(uint32(n)) }

// closed is a pack of its head and its entries: the trailer is laid behind them.
func closed(s string) string {
	sum := sha256.Sum256([]byte(s))
	return s + string(sum[:])
}

// of is a pack of entries.
func of(entries ...string) string { return closed(head(len(entries)) + strings.Join(entries, "")) }

// noughts is a trailer that Read doesn't ask.
var noughts = strings.Repeat("\x00", 32)

// resummed is a pack whose trailer is laid anew.
func resummed(b string) string { return closed(b[:len(b)-32]) }

// script is what makes one text of another one, as bytes.
func script(base, target string) string {
	s, _ := delta.Make([]byte(base), []byte(target))
	d, _ := delta.Put(s)
	return string(d)
}

// putScript is a script of ops, as bytes.
func putScript(base, target int, ops ...delta.Op) string {
	d, e := delta.Put(delta.Script{Base: base, Target: target, Ops: ops})
	if e != api.OK {
		panic(e)
	}
	return string(d)
}

// blob is an item.
func blob(s string) pack.Item { return pack.Item{Kind: api.Blob, Body: []byte(s)} }

// idOf is an item's id, by the words of chapter 8.
func idOf(x pack.Item) api.ID {
	word := []string{1: "blob", 2: "tree", 3: "commit", 4: "tag"}[x.Kind]
	return sha256.Sum256([]byte(word + " " + strconv.Itoa(len(x.Body)) + "\x00" + string(x.Body)))
}

// treeOf is a tree of files of these names.
func treeOf(names ...string) pack.Item {
	var l []api.Entry
	for k, name := range names {
		l = append(l, api.Entry{Name: name, Mode: api.File, ID: api.ID{byte(k + 1)}})
	}
	b, e := tree.Put(tree.Sorted(l))
	if e != api.OK {
		panic(e)
	}
	return pack.Item{Kind: api.Tree, Body: b}
}

// commitOf is a commit with a text.
func commitOf(text string) pack.Item {
	b, e := rev.Put(api.Rev{Tree: api.ID{1}, Author: "ann", Time: 5, Text: text})
	if e != api.OK {
		panic(e)
	}
	return pack.Item{Kind: api.Commit, Body: b}
}

// tagOf is a tag with a text.
func tagOf(text string) pack.Item {
	b, e := rev.PutMark(api.Mark{Object: api.ID{1}, Kind: api.Commit, Name: "v1", Time: 5, Text: text})
	if e != api.OK {
		panic(e)
	}
	return pack.Item{Kind: api.Tag, Body: b}
}

// P10.1: what Write refuses

// numbered are n blobs that differ.
func numbered(n int) []pack.Item {
	var l []pack.Item
	for k := range n {
		l = append(l, blob(strconv.Itoa(k)))
	}
	return l
}

// filling are blobs of noise whose pack, all of them whole, has so many bytes.
func filling(size int) []pack.Item {
	r := rand.New(rand.NewSource(1))
	var l []pack.Item
	for left := size - 44; left > 0; {
		// A body of 128 to 4000 bytes has 7 more in its entry. One that would leave too few for another one is half as long.
		n := min(left, 4007)
		if left > n && left-n < 200 {
			n = 2000
		}
		body := make([]byte, n-7)
		r.Read(body)
		l = append(l, pack.Item{Kind: api.Blob, Body: body})
		left -= n
	}
	return l
}

func TestWriteRefuses(t *testing.T) {
	twice := []pack.Item{blob("a"), blob("b"), blob("a")}
	kindless := pack.Item{Kind: 5, Body: []byte("x")}
	tooLong := blob(long(4001))
	noTree := pack.Item{Kind: api.Tree, Body: []byte("x")}
	noCommit := pack.Item{Kind: api.Commit, Body: []byte("x")}
	noTag := pack.Item{Kind: api.Tag}
	for _, x := range []struct {
		what  string
		l     []pack.Item
		chain int
		want  api.Errno
	}{
		{"a chain below 0", nil, -1, api.ErrArg},
		{"a chain of 9", nil, 9, api.ErrArg},
		{"the least chain", nil, math.MinInt, api.ErrArg},
		{"the greatest chain", nil, math.MaxInt, api.ErrArg},
		{"a chain that would be 1 in 32 bits", nil, 1<<32 + 1, api.ErrArg},
		{"a chain of 9, and too many", numbered(601), 9, api.ErrArg},
		{"a chain of 9, and no kind", []pack.Item{kindless}, 9, api.ErrArg},
		{"a chain of 9, and one twice", twice, 9, api.ErrArg},
		{"601", numbered(601), 8, api.ErrFull},
		{"601, and no kind", append(numbered(600), kindless), 8, api.ErrFull},
		{"601, and one twice", append(numbered(600), blob("7")), 8, api.ErrFull},
		{"many more", numbered(5000), 0, api.ErrFull},
		{"no kind", []pack.Item{kindless}, 8, api.ErrKind},
		{"kind 0", []pack.Item{{}}, 8, api.ErrKind},
		{"kind -1", []pack.Item{{Kind: -1}}, 8, api.ErrKind},
		{"kind 257", []pack.Item{{Kind: 257}}, 8, api.ErrKind},
		{"a long body", []pack.Item{tooLong}, 8, api.ErrLong},
		{"no tree", []pack.Item{noTree}, 8, api.ErrMode},
		{"no commit", []pack.Item{noCommit}, 8, api.ErrForm},
		{"no tag", []pack.Item{noTag}, 8, api.ErrForm},
		{"the first of several", []pack.Item{blob("a"), noTree, kindless, noCommit}, 8, api.ErrMode},
		{"the first of several, otherwise", []pack.Item{blob("a"), noCommit, noTree, kindless}, 8, api.ErrForm},
		{"the last one of 600", append(numbered(599), tooLong), 8, api.ErrLong},
		{"one twice", twice, 8, api.ErrTwice},
		{"one twice, without chains", twice, 0, api.ErrTwice},
		{"an empty one twice", []pack.Item{blob(""), blob("")}, 8, api.ErrTwice},
		{"a tree twice", []pack.Item{treeOf("a"), blob("a"), treeOf("a")}, 8, api.ErrTwice},
		{"one twice, and a wrong one behind", append(slices.Clone(twice), noTree), 8, api.ErrMode},
		{"a wrong one twice", []pack.Item{kindless, kindless}, 8, api.ErrKind},
		{"the last of 600 twice", append(numbered(599), blob("0")), 8, api.ErrTwice},
		{"a byte too many", filling(1<<20 + 1), 0, api.ErrLong},
		{"a byte too many, with chains", filling(1<<20 + 1), 8, api.ErrLong},
		{"twice as many", filling(2 << 20), 0, api.ErrLong},
		{"too long, and one twice", append(filling(1<<20+4000), blob("a"), blob("a")), 0, api.ErrTwice},
		{"too long, and a wrong one", append(filling(1<<20+4000), noTree), 0, api.ErrMode},
	} {
		if b, p, e := pack.Write(x.l, x.chain); len(b) != 0 || len(p) != 0 || e != x.want {
			t.Errorf("%s: %d bytes, %d places, %v, want %v", x.what, len(b), len(p), e, x.want)
		}
	}
}

func TestWriteOfEachChain(t *testing.T) {
	for chain := -20; chain <= 20; chain++ {
		want := api.ErrArg
		if 0 <= chain && chain <= 8 {
			want = api.OK
		}
		if _, _, e := pack.Write(numbered(3), chain); e != want {
			t.Errorf("%d: %v, want %v", chain, e, want)
		}
	}
}

// TestWriteOfMost: as many objects, and as many bytes, as there may be.
func TestWriteOfMost(t *testing.T) {
	same := append(numbered(598), treeOf(), treeOf("a"))
	for _, x := range []struct {
		what string
		l    []pack.Item
		size int
	}{
		{"600 objects", same, 0},
		{"2^20 bytes", filling(1 << 20), 1 << 20},
		{"a byte fewer", filling(1<<20 - 1), 1<<20 - 1},
	} {
		for _, chain := range []int{0, 8} {
			b, p, e := pack.Write(x.l, chain)
			if e != api.OK || len(p) != len(x.l) || x.size != 0 && len(b) != x.size {
				t.Errorf("%s: %d bytes, %d places, %v", x.what, len(b), len(p), e)
			}
			thereAndBack(t, x.l, b, p)
		}
	}
}

// P10.1: what Write makes

func TestWriteOfKnown(t *testing.T) {
	abc := "abcdefgh"
	for _, x := range []struct {
		what  string
		l     []pack.Item
		chain int
		want  string
	}{
		{"the example", nil, 0, "PACK\x00\x00\x00\x01\x00\x00\x00\x00" +
			"\x5c\x74\xaa\x3e\xf3\xe5\x66\x61\x2a\x0b\xe6\xc7\x23\x87\xc1\x05\x61\x7d\xf2\x3c\x11\x7b\x9f\x8c\x3e\x4a\x34\xaa\x67\x54\x38\x7d"},
		{"an empty list", []pack.Item{}, 8, of()},
		{"a blob", []pack.Item{blob("123456789")}, 8, of("\x01\x09\xcb\xf4\x39\x26123456789")},
		{"an empty blob", []pack.Item{blob("")}, 8, of("\x01\x00\x00\x00\x00\x00")},
		{"an empty tree", []pack.Item{treeOf()}, 8, of("\x02\x00\x00\x00\x00\x00")},
		{"an empty blob and an empty tree", []pack.Item{blob(""), treeOf()}, 8, of("\x01\x00\x00\x00\x00\x00", "\x02\x00\x00\x00\x00\x00")},
		{"a commit", []pack.Item{commitOf("x")}, 8, of(whole(3, string(commitOf("x").Body)))},
		{"a tag", []pack.Item{tagOf("x")}, 8, of(whole(4, string(tagOf("x").Body)))},
		{"128 bytes", []pack.Item{blob(long(128))}, 8, of("\x01\x80\x01" + summed(long(128)))},
		{"4000 bytes", []pack.Item{blob(long(4000))}, 8, of("\x01\xa0\x1f" + summed(long(4000)))},
		{"one told by the one ahead", []pack.Item{blob(abc), blob(abc + abc)}, 8,
			of(whole(1, abc), "\x05\x08\x0e"+summed("\x08\x10\x01\x00\x08\x01\x00\x08"))},
		{"the same without chains", []pack.Item{blob(abc), blob(abc + abc)}, 0, of(whole(1, abc), whole(1, abc+abc))},
		{"a script of a byte fewer than the body", []pack.Item{blob("abcdefg"), blob("bcdefg")}, 8, of(whole(1, "abcdefg"), "\x05\x05\x0d"+summed("\x07\x06\x01\x01\x06"))},
		{"a script as long as the body", []pack.Item{blob("abcdefg"), blob("abcdefgx")}, 8, of(whole(1, "abcdefg"), whole(1, "abcdefgx"))},
		{"bodies that differ in the kind alone", []pack.Item{treeOf("abcdefgh"), blob(string(treeOf("abcdefgh").Body))}, 8,
			of(whole(2, string(treeOf("abcdefgh").Body)), whole(1, string(treeOf("abcdefgh").Body)))},
	} {
		b, p, e := pack.Write(x.l, x.chain)
		if string(b) != x.want || e != api.OK || len(p) != len(x.l) {
			t.Errorf("%s: %s, %d, %v, want %s", x.what, brief(b), len(p), e, brief(x.want))
		}
	}
}

func TestPlacesOfKnown(t *testing.T) {
	l := []pack.Item{blob("123456789"), blob(""), treeOf(), blob("123456789123456789")}
	_, p, e := pack.Write(l, 8)
	script := "\x09\x12\x01\x00\x09\x01\x00\x09"
	want := []pack.Place{
		{ID: idOf(l[0]), At: 12, Sum: 0xcbf43926},
		{ID: idOf(l[1]), At: 27},
		{ID: idOf(l[2]), At: 33},
		{ID: idOf(l[3]), At: 39, Sum: crc32.ChecksumIEEE([]byte(script))},
	}
	if !slices.Equal(p, want) || e != api.OK {
		t.Errorf("%v, %v, want %v", p, e, want)
	}
}

// basesOf are the numbers of the objects by which those of a pack are told: -1, if one is whole.
func basesOf(b []byte, p []pack.Place) []int {
	var l []int
	for _, x := range p {
		base := -1
		if b[x.At] == 5 {
			_, n := binary.Uvarint(b[x.At+1:])
			ahead, _ := binary.Uvarint(b[x.At+1+n:])
			base = slices.IndexFunc(p, func(y pack.Place) bool { return y.At == x.At-int(ahead) })
		}
		l = append(l, base)
	}
	return l
}

// TestBases: which object another one is told by.
func TestBases(t *testing.T) {
	// No two of these parts have six bytes in common.
	a, b, c, d := "the first part of it.", "AN UPPER SECOND ONE!!", "012345678909876543210", "~#+*<>|;:_-^@'\"()[]{}"
	text := a + b + c + d
	apart := []pack.Item{blob(a), blob(b), blob(c), blob(d)}
	rising := []pack.Item{blob(text), blob(text + "1"), blob(text + "2"), blob(text + "3"), blob(text + "4"), blob(text + "5"), blob(text + "6")}
	for _, x := range []struct {
		what  string
		l     []pack.Item
		chain int
		want  []int
	}{
		{"of like ones the last one", []pack.Item{blob(a + "1"), blob("2" + a), blob(a)}, 8, []int{-1, 0, 1}},
		{"of like ones the last one that does not lie too deep", []pack.Item{blob(a + "1"), blob("2" + a), blob(a)}, 1, []int{-1, 0, 0}},
		{"the shortest, not the last one", []pack.Item{blob(a + b), blob(c + d), blob(b + a)}, 8, []int{-1, -1, 0}},
		{"the shortest, not the first one", append(slices.Clone(apart), blob(a+b+c), blob(a+b+c+d)), 8, []int{-1, -1, -1, -1, 2, 4}},
		{"the fourth of the last ones", append(slices.Clone(apart), blob(a+"x")), 8, []int{-1, -1, -1, -1, 0}},
		{"not the fifth", []pack.Item{blob(a), blob(b), blob(c), blob(d), blob("another one"), blob(a + "x")}, 8, []int{-1, -1, -1, -1, -1, -1}},
		{"the fourth, with other kinds between", []pack.Item{blob(a), treeOf("1"), blob(b), tagOf(a), blob(c), commitOf(a), treeOf(), blob(d), blob(a + "x")}, 8,
			[]int{-1, -1, -1, -1, -1, -1, -1, -1, 0}},
		{"none of another kind", []pack.Item{commitOf(text), tagOf(text), blob(text), commitOf(text + "x"), tagOf(text + "x")}, 8, []int{-1, -1, -1, 0, 1}},
		{"none at all", []pack.Item{blob(a)}, 8, []int{-1}},
		{"no chain", rising[:3], 0, []int{-1, -1, -1}},
		{"each by the last one", rising, 8, []int{-1, 0, 1, 2, 3, 4, 5}},
		{"none deeper than 1, and those that are have their seats", rising, 1, []int{-1, 0, 0, 0, 0, -1, 5}},
		{"none deeper than 2", rising, 2, []int{-1, 0, 1, 1, 1, 1, -1}},
		{"none deeper than 3", rising, 3, []int{-1, 0, 1, 2, 2, 2, 2}},
		{"a body no longer than the script", []pack.Item{blob("abcdef"), blob("fabcde"), blob("cdef")}, 8, []int{-1, -1, -1}},
		{"a script of a byte more", []pack.Item{blob("abcdef"), blob("abcdefgh")}, 8, []int{-1, -1}},
		{"a script of as many bytes", []pack.Item{blob("abcdefg"), blob("abcdefgh")}, 8, []int{-1, -1}},
		{"a script of a byte fewer", []pack.Item{blob("abcdefgh"), blob("abcdefghi")}, 8, []int{-1, 0}},
		{"a script of a byte fewer, of a copy alone", []pack.Item{blob("abcdefg"), blob("abcdef")}, 8, []int{-1, 0}},
		{"a body too short to be copied", []pack.Item{blob("abcdefg"), blob("bcdef")}, 8, []int{-1, -1}},
	} {
		b, p, e := pack.Write(x.l, x.chain)
		if got := basesOf(b, p); !slices.Equal(got, x.want) || e != api.OK {
			t.Errorf("%s: %v, %v, want %v", x.what, got, e, x.want)
		}
		thereAndBack(t, x.l, b, p)
	}
}

// TestDepths: as deep as may be, of each chain, and no deeper.
func TestDepths(t *testing.T) {
	text := "a text that all the others are made of, one of another one"
	var l []pack.Item
	for k := range 40 {
		l = append(l, blob(text+strings.Repeat("x", k)))
	}
	for chain := range 9 {
		b, p, e := pack.Write(l, chain)
		depths := make([]int, len(l))
		for k, base := range basesOf(b, p) {
			if base >= 0 {
				depths[k] = depths[base] + 1
			}
		}
		if slices.Max(depths) != chain || e != api.OK {
			t.Errorf("%d: %v, %v", chain, depths, e)
		}
		thereAndBack(t, l, b, p)
	}
}

// writeModel is what Write makes of right objects, by the words of the chapter.
func writeModel(l []pack.Item, chain int) (string, []pack.Place) {
	b := head(len(l))
	var p []pack.Place
	var depths []int
	like := map[int][]int{}
	for k, x := range l {
		last := like[x.Kind][max(len(like[x.Kind])-4, 0):]
		load, base := "", -1
		for i := len(last) - 1; i >= 0; i-- {
			c := last[i]
			if d := script(string(l[c].Body), string(x.Body)); depths[c] < chain && (base < 0 || len(d) < len(load)) {
				load, base = d, c
			}
		}
		at := len(b)
		if base >= 0 && len(load) < len(x.Body) {
			b += told(at-p[base].At, load)
			depths = append(depths, depths[base]+1)
		} else {
			load = string(x.Body)
			b += whole(x.Kind, load)
			depths = append(depths, 0)
		}
		p = append(p, pack.Place{ID: idOf(x), At: at, Sum: crc32.ChecksumIEEE([]byte(load))})
		like[x.Kind] = append(like[x.Kind], k)
	}
	return closed(b), p
}

// anyText is a text of so many bytes out of so many that differ.
func anyText(r *rand.Rand, n, letters int) string {
	b := make([]byte, n)
	for k := range b {
		b[k] = byte('a' + r.Intn(letters))
	}
	return string(b)
}

// patched is a text made of parts of another one and of new ones.
func patched(r *rand.Rand, base string, n int) string {
	b := ""
	for len(b) < n {
		if len(base) > 0 && r.Intn(3) > 0 {
			from := r.Intn(len(base))
			b += base[from:min(from+1+r.Intn(40), len(base))]
		} else {
			b += anyText(r, 1+r.Intn(8), 26)
		}
	}
	return b[:n]
}

// anyItem is an object, in part like a text.
func anyItem(r *rand.Rand, like string) pack.Item {
	text := patched(r, like, r.Intn(200))
	switch r.Intn(8) {
	case 0:
		var names []string
		for k := range r.Intn(6) {
			names = append(names, strconv.Itoa(k)+anyText(r, 1, 3))
		}
		return treeOf(names...)
	case 1:
		return commitOf(text)
	case 2:
		return tagOf(text)
	}
	return blob(text)
}

// anyItems are up to n objects, many of which are like others.
func anyItems(r *rand.Rand, n int) []pack.Item {
	var l []pack.Item
	has := map[api.ID]bool{}
	like := []string{anyText(r, 100, 26), anyText(r, 100, 26)}
	for range n {
		k := r.Intn(len(like))
		x := anyItem(r, like[k])
		if r.Intn(2) == 0 {
			like[k] = string(x.Body)
		}
		if id := idOf(x); !has[id] {
			l = append(l, x)
			has[id] = true
		}
	}
	return l
}

// thereAndBack asks whether Scan tells the places, and Read the objects: P10.4.
func thereAndBack(t *testing.T, l []pack.Item, b []byte, p []pack.Place) {
	t.Helper()
	q, e := pack.Scan(b)
	if !slices.Equal(p, q) || e != api.OK {
		t.Fatalf("%d places, %v, want %d", len(q), e, len(p))
	}
	for k, x := range l {
		kind, body, e := pack.Read(b, p[k].At)
		if kind != x.Kind || !bytes.Equal(body, x.Body) || e != api.OK {
			t.Fatalf("%d: kind %d, %s, %v", k, kind, brief(body), e)
		}
	}
	sum := sha256.Sum256(b[:len(b)-32])
	if id, e := pack.Trailer(b); id != sum || e != api.OK {
		t.Fatalf("%v, %v", id, e)
	}
}

func TestWrite(t *testing.T) {
	r := rand.New(rand.NewSource(2))
	scripts, deepest := 0, 0
	for k := range 1500 {
		l := anyItems(r, r.Intn(30))
		chain := k % 9
		want, places := writeModel(l, chain)
		b, p, e := pack.Write(l, chain)
		if string(b) != want || !slices.Equal(p, places) || e != api.OK {
			t.Fatalf("%d objects, chain %d: %s, %v, want %s", len(l), chain, brief(b), e, brief(want))
		}
		thereAndBack(t, l, b, p)
		depths := make([]int, len(l))
		for k, base := range basesOf(b, p) {
			if base >= 0 {
				scripts++
				depths[k] = depths[base] + 1
				deepest = max(deepest, depths[k])
			}
		}
	}
	if scripts < 1000 || deepest != 8 {
		t.Error(scripts, deepest)
	}
}

// TestWriteOfMany: as many objects as there may be, each like the ones ahead.
func TestWriteOfMany(t *testing.T) {
	r := rand.New(rand.NewSource(3))
	l := []pack.Item{}
	text := anyText(r, 500, 26)
	for range 600 {
		at := r.Intn(len(text))
		text = text[:at] + anyText(r, 10, 26) + text[at:]
		text = text[:min(len(text), 600)]
		l = append(l, blob(text))
	}
	want, places := writeModel(l, 8)
	b, p, e := pack.Write(l, 8)
	if string(b) != want || !slices.Equal(p, places) || e != api.OK {
		t.Errorf("%d bytes, %v, want %d", len(b), e, len(want))
	}
	thereAndBack(t, l, b, p)
}

// P10.2

// taken is a number of any size that a text begins with, and what is behind it.
func taken(d string, most uint64) (int, string, api.Errno) {
	n := uint64(0)
	for k := 0; ; k++ {
		if k == len(d) {
			return 0, "", api.ErrEnd
		}
		c := d[k]
		if k == 9 && c > 1 || k > 0 && c == 0 {
			return 0, "", api.ErrForm
		}
		n |= uint64(c&127) << (7 * k)
		if c < 128 {
			if n > most {
				return 0, "", api.ErrLong
			}
			return int(n), d[k+1:], api.OK
		}
	}
}

// found is what entryModel tells: an object, its load's sum, and where its entry ends.
type found struct {
	kind int
	body string
	sum  uint32
	end  int
}

// entryModel is the object of the entry at a place of a pack without its trailer, on which so many that are not whole lie, by the words of the chapter.
func entryModel(b string, at, above int) (found, api.Errno) {
	kind := int(b[at])
	if kind < 1 || kind > 5 {
		return found{}, api.ErrKind
	}
	n, d, e := taken(b[at+1:], 4000)
	if e != api.OK {
		return found{}, e
	}
	base := at
	if kind == 5 {
		var ahead int
		if ahead, d, e = taken(d, 1<<20); e != api.OK {
			return found{}, e
		}
		if base = at - ahead; base < 12 || base >= at {
			return found{}, api.ErrBase
		}
	}
	if len(d) < 4 {
		return found{}, api.ErrEnd
	}
	sum := binary.BigEndian.Uint32([]byte(d))
	d = d[4:]
	if kind == 5 && above == 8 {
		return found{}, api.ErrDeep
	}
	if len(d) < n {
		return found{}, api.ErrEnd
	}
	if crc32.ChecksumIEEE([]byte(d[:n])) != sum {
		return found{}, api.ErrSum
	}
	x := found{kind, d[:n], sum, len(b) - len(d) + n}
	if kind < 5 {
		return x, api.OK
	}
	y, e := entryModel(b, base, above+1)
	if e != api.OK {
		return found{}, e
	}
	s, e := delta.Read([]byte(x.body))
	if e != api.OK {
		return found{}, e
	}
	body, e := delta.Apply([]byte(y.body), s)
	if e != api.OK {
		return found{}, e
	}
	x.kind, x.body = y.kind, string(body)
	return x, api.OK
}

// readModel is what Read says.
func readModel(b string, at int) (found, api.Errno) {
	if len(b) < 44 {
		return found{}, api.ErrEnd
	}
	if at < 12 || at >= len(b)-32 {
		return found{}, api.ErrArg
	}
	return entryModel(b[:len(b)-32], at, 0)
}

// scanModel is what Scan says.
func scanModel(b string) ([]pack.Place, api.Errno) {
	switch {
	case len(b) > 1<<20:
		return nil, api.ErrLong
	case len(b) < 44:
		return nil, api.ErrEnd
	case b[:8] != "PACK\x00\x00\x00\x01":
		return nil, api.ErrForm
	case resummed(b) != b:
		return nil, api.ErrSum
	}
	n := binary.BigEndian.Uint32([]byte(b[8:12]))
	if n > 600 {
		return nil, api.ErrFull
	}
	var l []pack.Place
	at := 12
	for range n {
		x, e := readModel(b, at)
		if e != api.OK {
			return nil, e
		}
		if e := object.Check(x.kind, []byte(x.body)); e != api.OK {
			return nil, e
		}
		l = append(l, pack.Place{ID: idOf(pack.Item{Kind: x.kind, Body: []byte(x.body)}), At: at, Sum: x.sum})
		at = x.end
	}
	if at != len(b)-32 {
		return nil, api.ErrRest
	}
	return l, api.OK
}

// readsAsModel asks whether Read says what the model does.
func readsAsModel(t *testing.T, b string, at int) api.Errno {
	t.Helper()
	want, f := readModel(b, at)
	kind, body, e := pack.Read([]byte(b), at)
	if kind != want.kind || string(body) != want.body || e != f {
		t.Fatalf("%s at %d: %d, %s, %v, want %d, %s, %v", brief(b), at, kind, brief(body), e, want.kind, brief(want.body), f)
	}
	if e == api.OK && (kind < 1 || kind > 4 || len(body) > 4000) {
		t.Fatalf("%s at %d: kind %d, %d bytes", brief(b), at, kind, len(body))
	}
	return e
}

// scansAsModel asks whether Scan says what the model does.
func scansAsModel(t *testing.T, b string) api.Errno {
	t.Helper()
	want, f := scanModel(b)
	l, e := pack.Scan([]byte(b))
	if !slices.Equal(l, want) || e != f {
		t.Fatalf("%s: %v, %v, want %v, %v", brief(b), l, e, want, f)
	}
	return e
}

// tower is a pack of an entry, and of so many that each lie on the one before, all with one load, and the places of all.
func tower(bottom string, deltas int, load string) (string, []int) {
	b, places := head(deltas+1)+bottom, []int{12}
	ahead := len(bottom)
	for range deltas {
		places = append(places, len(b))
		x := told(ahead, load)
		b += x
		ahead = len(x)
	}
	return closed(b), places
}

// same is a script that makes a text of so many bytes of itself.
func same(n int) string { return putScript(n, n, delta.Op{Copy: true, N: n}) }

// nine are nine bytes of digits of noughts, behind each of which another one follows.
const nine = "\x80\x80\x80\x80\x80\x80\x80\x80\x80"

func TestReadOfKnown(t *testing.T) {
	hello, turn := whole(1, "hello, world"), script("hello, world", "hello, there")
	onHello := told(len(hello), turn)
	for _, x := range []struct {
		what    string
		entries string
		at      int
		kind    int
		body    string
	}{
		{"a blob", hello, 12, 1, "hello, world"},
		{"an empty blob", whole(1, ""), 12, 1, ""},
		{"an empty tree", whole(2, ""), 12, 2, ""},
		{"a tree that is none", whole(2, "x"), 12, 2, "x"},
		{"a commit that is none", whole(3, "x"), 12, 3, "x"},
		{"a tag that is none", whole(4, "x"), 12, 4, "x"},
		{"4000 bytes", whole(4, long(4000)), 12, 4, long(4000)},
		{"the second one", hello + whole(2, "x"), 12 + len(hello), 2, "x"},
		{"one on another one", hello + onHello, 12 + len(hello), 1, "hello, there"},
		{"one whose base is of another kind", whole(4, "hello, world") + onHello, 12 + len(hello), 4, "hello, there"},
		{"one on the one ahead of the last one", hello + whole(2, "abc") + told(len(hello)+9, turn), 12 + len(hello) + 9, 1, "hello, there"},
		{"one on a base amid another one's load", whole(1, "**"+hello+"**") + told(len(hello)+2, turn), 12 + 6 + len(hello) + 4, 1, "hello, there"},
		{"amid another one's load", whole(1, "**"+hello+"**"), 12 + 6 + 2, 1, "hello, world"},
		{"with bytes left behind", hello + "rest", 12, 1, "hello, world"},
		{"1300 bytes on one byte", whole(1, "n") + told(7, putScript(1, 1300, slices.Repeat([]delta.Op{{Copy: true, N: 1}}, 1300)...)), 19, 1, long(1300)},
		{"4000 bytes on 1000", whole(1, long(1000)) + told(1007, putScript(1000, 4000, slices.Repeat([]delta.Op{{Copy: true, N: 1000}}, 4)...)), 1019, 1, long(4000)},
		{"nothing on 4000 bytes", whole(1, long(4000)) + told(4007, putScript(4000, 0)), 12 + 4007, 1, ""},
		{"3990 new bytes on nothing", whole(1, "") + told(6, putScript(0, 3990, delta.Op{Bytes: []byte(long(3990))})), 18, 1, long(3990)},
	} {
		for _, b := range []string{of(x.entries), head(0) + x.entries + noughts, "any bytes.. " + x.entries + noughts} {
			kind, body, e := pack.Read([]byte(b), x.at)
			if kind != x.kind || string(body) != x.body || e != api.OK {
				t.Errorf("%s: %d, %s, %v", x.what, kind, brief(body), e)
			}
			readsAsModel(t, b, x.at)
		}
	}
}

func TestReadRefuses(t *testing.T) {
	hello, turn := whole(1, "hello, world"), script("hello, world", "hello, there")
	second := 12 + len(hello)
	badSum := func(s string, at int) string { return s[:at] + string([]byte{s[at] ^ 1}) + s[at+1:] }
	for _, x := range []struct {
		what    string
		entries string
		at      int
		want    api.Errno
	}{
		{"no entries", "", 12, api.ErrArg},
		{"at 0", hello, 0, api.ErrArg},
		{"amid the head", hello, 11, api.ErrArg},
		{"below 0", hello, -1, api.ErrArg},
		{"at the least number", hello, math.MinInt, api.ErrArg},
		{"at the trailer", hello, second, api.ErrArg},
		{"amid the trailer", hello, second + 5, api.ErrArg},
		{"at the end", hello, second + 32, api.ErrArg},
		{"behind the end", hello, second + 33, api.ErrArg},
		{"at the greatest number", hello, math.MaxInt, api.ErrArg},
		{"kind 0", "\x00\x02" + summed("hi"), 12, api.ErrKind},
		{"kind 6", "\x06\x02" + summed("hi"), 12, api.ErrKind},
		{"kind 255", "\xff\x02" + summed("hi"), 12, api.ErrKind},
		{"kind 129", "\x81\x02" + summed("hi"), 12, api.ErrKind},
		{"kind 6 alone", "\x06", 12, api.ErrKind},
		{"kind 6 ahead of a wrong number", "\x06\x80\x00", 12, api.ErrKind},
		{"a kind alone", "\x01", 12, api.ErrEnd},
		{"half a size", "\x01\x80", 12, api.ErrEnd},
		{"a size with a nought", "\x01\x80\x00" + summed(""), 12, api.ErrForm},
		{"a size of ten digits, the last one 2", "\x01" + nine + "\x02", 12, api.ErrForm},
		{"a size of ten digits, the last one 1", "\x01" + nine + "\x01", 12, api.ErrLong},
		{"a size of nine digits", "\x01" + nine, 12, api.ErrEnd},
		{"a size of 4001", "\x01\xa1\x1f" + summed(long(4001)), 12, api.ErrLong},
		{"a size of 4001, and no more", "\x01\xa1\x1f", 12, api.ErrLong},
		{"a size of 4000, and no more", "\x01\xa0\x1f", 12, api.ErrEnd},
		{"a size without a sum", "\x01\x02", 12, api.ErrEnd},
		{"three bytes of a sum", "\x01\x00\x00\x00\x00", 12, api.ErrEnd},
		{"no load", "\x01\x02" + summed("hi")[:4], 12, api.ErrEnd},
		{"a byte too few", "\x01\x03" + summed("hi"), 12, api.ErrEnd},
		{"a load cut off, with another sum", "\x01\x03" + summed("ho")[:4] + "hi", 12, api.ErrEnd},
		{"a load that would go on in the trailer", "\x01\x20" + four(crc32.ChecksumIEEE(make([]byte, 32))), 12, api.ErrEnd},
		{"another sum", "\x01\x02" + four(crc32.ChecksumIEEE([]byte("hi"))^1) + "hi", 12, api.ErrSum},
		{"another load", badSum(hello, 8), 12, api.ErrSum},
		{"a sum of nothing that is not 0", "\x01\x00\x00\x00\x00\x01", 12, api.ErrSum},
		{"a script without its base's place", hello + "\x05\x02", second, api.ErrEnd},
		{"a script whose size is too great, ahead of its base", "\x05\xa1\x1f\x00", 12, api.ErrLong},
		{"half a base's place", hello + "\x05\x02\x80", second, api.ErrEnd},
		{"a base's place with a nought", hello + "\x05\x02\x80\x00", second, api.ErrForm},
		{"a base's place of ten digits, the last one 2", hello + "\x05\x02" + nine + "\x02", second, api.ErrForm},
		{"a base's place of ten digits, the last one 1", hello + "\x05\x02" + nine + "\x01", second, api.ErrLong},
		{"a base 2^20 + 1 ahead", hello + told(1<<20+1, turn), second, api.ErrLong},
		{"a base 2^20 ahead, which is nowhere", hello + told(1<<20, turn), second, api.ErrBase},
		{"its own base", hello + told(0, turn), second, api.ErrBase},
		{"its own base, and no more", hello + "\x05\x00\x00", second, api.ErrBase},
		{"its own base, and another sum", hello + "\x05\x00\x00\x01\x02\x03\x04", second, api.ErrBase},
		{"a base in the head", hello + told(len(hello)+1, turn), second, api.ErrBase},
		{"a base at 0", hello + told(second, turn), second, api.ErrBase},
		{"a base ahead of all", hello + told(second+1, turn), second, api.ErrBase},
		{"a base ahead of the first one", told(1, turn), 12, api.ErrBase},
		{"a base in the head, and no sum", hello + "\x05\x02" + digits(len(hello)+1), second, api.ErrBase},
		{"a right base, and no sum", hello + "\x05\x02" + digits(len(hello)), second, api.ErrEnd},
		{"a script cut off", hello + told(len(hello), turn)[:len(turn)+5], second, api.ErrEnd},
		{"a script with another sum", hello + badSum(told(len(hello), turn), 5), second, api.ErrSum},
		{"a script with another sum on a wrong base", "\x06" + hello[1:] + badSum(told(len(hello), turn), 5), second, api.ErrSum},
		{"a base of no kind", "\x06" + hello[1:] + told(len(hello), turn), second, api.ErrKind},
		{"a base with another sum", badSum(hello, 9) + told(len(hello), turn), second, api.ErrSum},
		{"a base with a wrong size", "\x01\x80\x00" + told(3, turn), 15, api.ErrForm},
		{"a base that is too long", "\x01\xa1\x1f" + told(3, turn), 15, api.ErrLong},
		{"a base cut off", "\x01\xa0\x1f" + told(3, turn), 15, api.ErrEnd},
		{"a base that is its own", told(0, turn) + told(len(turn)+7, turn), 12 + len(turn) + 7, api.ErrBase},
		{"a wrong base ahead of a script that is none", "\x06" + hello[1:] + told(len(hello), ""), second, api.ErrKind},
		{"an empty script", hello + told(len(hello), ""), second, api.ErrEnd},
		{"a script of half a base", hello + told(len(hello), "\x0c"), second, api.ErrEnd},
		{"a script whose base is too long", hello + told(len(hello), "\xa1\x1f\x00"), second, api.ErrLong},
		{"a script with a nought too many", hello + told(len(hello), "\x8c\x00\x00"), second, api.ErrForm},
		{"a script with an op of no kind", hello + told(len(hello), "\x0c\x01\x02"), second, api.ErrKind},
		{"a script with a copy behind the end", hello + told(len(hello), "\x0c\x01\x01\x0c\x01"), second, api.ErrBase},
		{"a script that lays too much", hello + told(len(hello), "\x0c\x01\x01\x00\x02"), second, api.ErrLong},
		{"a script that lays too little", hello + told(len(hello), "\x0c\x03\x01\x00\x02"), second, api.ErrEnd},
		{"a script of a longer base", hello + told(len(hello), same(13)), second, api.ErrBase},
		{"a script of a shorter base", hello + told(len(hello), same(11)), second, api.ErrBase},
		{"a script of an empty base", hello + told(len(hello), "\x00\x00"), second, api.ErrBase},
		{"two scripts, the lower one wrong at its end", hello + told(len(hello), "\x0c\x03\x01\x00\x02") + told(12, "\x02"), second + 12, api.ErrEnd},
		{"two scripts, the lower one of no kind", hello + told(len(hello), "\x0c\x01\x02") + told(10, "\xa1\x1f"), second + 10, api.ErrKind},
		{"two scripts, the lower one of a longer base", hello + told(len(hello), same(13)) + told(12, "\x0c\x01\x02"), second + 12, api.ErrBase},
		{"two scripts, the upper one of no kind", hello + told(len(hello), same(12)) + told(12, "\x0c\x01\x02"), second + 12, api.ErrKind},
	} {
		for _, b := range []string{of(x.entries), head(0) + x.entries + noughts} {
			kind, body, e := pack.Read([]byte(b), x.at)
			if kind != 0 || len(body) != 0 || e != x.want {
				t.Errorf("%s: %d, %s, %v, want %v", x.what, kind, brief(body), e, x.want)
			}
			readsAsModel(t, b, x.at)
		}
	}
}

func TestReadOfShort(t *testing.T) {
	for _, s := range []string{"", of(), of(whole(1, "hi")), strings.Repeat("\x01", 100)} {
		for n := range min(len(s)+1, 80) {
			for at := -2; at < 90; at++ {
				e := readsAsModel(t, s[:n], at)
				if n < 44 && e != api.ErrEnd {
					t.Errorf("%d bytes, at %d: %v", n, at, e)
				}
				if n == 44 && e != api.ErrArg {
					t.Errorf("%d bytes, at %d: %v", n, at, e)
				}
			}
		}
	}
	if _, _, e := pack.Read(nil, 12); e != api.ErrEnd {
		t.Error(e)
	}
}

// TestReadOfTowers: how many that are not whole may lie on one another.
func TestReadOfTowers(t *testing.T) {
	b, places := tower(whole(1, "hello, world"), 20, same(12))
	for k, at := range places {
		want := api.OK
		if k > 8 {
			want = api.ErrDeep
		}
		_, body, e := pack.Read([]byte(b), at)
		if e != want || e == api.OK && string(body) != "hello, world" {
			t.Errorf("%d on one another: %s, %v, want %v", k, brief(body), e, want)
		}
		readsAsModel(t, b, at)
	}
}

// TestTheOneTooMany: what is told of one on which eight lie that are not whole.
func TestTheOneTooMany(t *testing.T) {
	turn := same(12)
	for _, x := range []struct {
		what, entry string
		want        api.Errno
	}{
		{"a whole one", whole(1, "hello, world"), api.OK},
		{"a whole one with another sum", "\x01\x00\x00\x00\x00\x01", api.ErrSum},
		{"a whole one of another length", whole(1, "hello"), api.ErrBase},
		{"of no kind", "\x06" + told(14, turn)[1:], api.ErrKind},
		{"one too many", told(14, turn), api.ErrDeep},
		{"with another sum", "\x05\x01\x0e" + four(7) + "x", api.ErrDeep},
		{"with a load cut off", "\x05\xa0\x1f\x0e" + four(7), api.ErrDeep},
		{"with a script that is none", told(14, ""), api.ErrDeep},
		{"with a script of another base", told(14, same(11)), api.ErrDeep},
		{"on one of no kind", told(3, turn), api.ErrDeep},
		{"on itself", told(0, turn), api.ErrBase},
		{"on the head", told(15, turn), api.ErrBase},
		{"with a base too far", "\x05\x00\x81\x80\x40" + four(0), api.ErrLong},
		{"with a nought in its base's place", "\x05\x00\x80\x00" + four(0), api.ErrForm},
		{"with a nought in its size", "\x05\x80\x00\x0e" + four(0), api.ErrForm},
		{"too long", "\x05\xa1\x1f\x0e" + four(0), api.ErrLong},
	} {
		b, places := tower(strings.Repeat("x", 14)+x.entry, 8, turn)
		// The tower lies on the entry alone, not on what stands ahead of it.
		b = strings.Replace(b, told(14+len(x.entry), turn), told(len(x.entry), turn), 1)
		if _, _, e := pack.Read([]byte(b), places[8]); e != x.want {
			t.Errorf("%s: %v, want %v", x.what, e, x.want)
		}
		readsAsModel(t, b, places[8])
	}
}

// TestReadOfLong: Read takes bytes of any length, and a base that is 2^20 ahead.
func TestReadOfLong(t *testing.T) {
	hello := whole(1, "hello, world")
	for _, x := range []struct {
		ahead int
		want  api.Errno
	}{{1<<20 - 1, api.OK}, {1 << 20, api.OK}, {1<<20 + 1, api.ErrLong}} {
		b := head(0) + hello + long(x.ahead-len(hello)) + told(x.ahead, same(12)) + long(5000) + noughts
		_, body, e := pack.Read([]byte(b), 12+x.ahead)
		if e != x.want || e == api.OK && string(body) != "hello, world" {
			t.Errorf("%d: %s, %v", x.ahead, brief(body), e)
		}
		readsAsModel(t, b, 12)
	}
}

// TestReadOfTheLongest: an entry has at most ten bytes, and a load of 4000.
func TestReadOfTheLongest(t *testing.T) {
	load := putScript(4000, 1332, slices.Repeat([]delta.Op{{Copy: true, N: 1}}, 1332)...)
	base := whole(1, long(4000))
	for _, ahead := range []int{len(base), 1<<14 - 1, 1 << 14, 1<<20 - 1, 1 << 20} {
		b := head(0) + base + long(ahead-len(base)) + told(ahead, load)
		for _, behind := range []string{"", "x", long(100)} {
			kind, body, e := pack.Read([]byte(b+behind+noughts), 12+ahead)
			if len(load) != 4000 || kind != api.Blob || string(body) != long(1332) || e != api.OK {
				t.Errorf("%d: %d bytes, %d, %s, %v", ahead, len(load), kind, brief(body), e)
			}
		}
		if _, _, e := pack.Read([]byte(b[:len(b)-1]+noughts), 12+ahead); e != api.ErrEnd {
			t.Errorf("%d, cut off: %v", ahead, e)
		}
	}
}

// parts are those of an entry as bytes: ahead is empty, if it is whole.
type parts struct{ kind, size, ahead, sum, load string }

// joined are parts one behind the other.
func joined(p parts) string { return p.kind + p.size + p.ahead + p.sum + p.load }

// rightParts are those of an entry at a place, which lies on one that begins at one of some places, mostly the last one, if it is not whole.
func rightParts(r *rand.Rand, at int, places []int) parts {
	texts := []string{"hello, world", "hello, there"}
	body := texts[r.Intn(2)]
	if r.Intn(5) == 0 {
		kind := 1 + r.Intn(4)
		return parts{string([]byte{byte(kind)}), digits(len(body)), "", four(crc32.ChecksumIEEE([]byte(body))), body}
	}
	base := places[len(places)-1]
	if r.Intn(5) == 0 {
		base = places[r.Intn(len(places))]
	}
	load := script(texts[r.Intn(2)], body)
	return parts{"\x05", digits(len(load)), digits(at - base), four(crc32.ChecksumIEEE([]byte(load))), load}
}

// spoilt are parts, one of which is another one.
func spoilt(r *rand.Rand, p parts) parts {
	noughts := strings.Repeat("\x80", r.Intn(10)) + "\x00"
	switch r.Intn(10) {
	case 0:
		p.kind = string([]byte{byte(r.Intn(8))})
	case 1:
		p.size = digits(max(len(p.load)+r.Intn(3)-1, 0))
	case 2:
		p.size = digits(3999 + r.Intn(3))
	case 3:
		p.size = noughts
	case 4:
		p.ahead = digits(r.Intn(80))
	case 5:
		p.ahead = digits(1<<20 + r.Intn(3) - 1)
	case 6:
		p.ahead = noughts
	case 7:
		p.sum = four(r.Uint32())
	case 8:
		p.load = anyText(r, r.Intn(20), 3)
	case 9:
		b := []byte(p.load)
		b[r.Intn(len(b))] = byte(r.Intn(14))
		p.load, p.sum = string(b), four(crc32.ChecksumIEEE(b))
	}
	return p
}

// anyPack is a pack of entries, of which some may be wrong, and their places.
func anyPack(r *rand.Rand) (string, []int) {
	n, right := 1+r.Intn(24), []int{10, 100, 1000}[r.Intn(3)]
	s := head(n+[]int{0, 0, 0, 0, 1, -1}[r.Intn(6)]) + whole(1, "hello, world")
	places := []int{12}
	for len(places) < n {
		p := rightParts(r, len(s), places)
		if r.Intn(right) == 0 {
			p = spoilt(r, p)
		}
		places = append(places, len(s))
		s += joined(p)
	}
	return closed(s), places
}

// TestReadOfAny: entries that are wrong in one way or another, bases amid others, and each place of them.
func TestReadOfAny(t *testing.T) {
	r := rand.New(rand.NewSource(4))
	seen := map[api.Errno]int{}
	for range 3000 {
		b, places := anyPack(r)
		for _, at := range places {
			seen[readsAsModel(t, b, at)]++
		}
		for at := range len(b) + 2 {
			readsAsModel(t, b, at)
		}
		cut := b[:len(b)-r.Intn(len(b)-44)]
		for _, at := range places {
			readsAsModel(t, cut, at)
		}
	}
	for _, e := range []api.Errno{api.OK, api.ErrEnd, api.ErrForm, api.ErrLong, api.ErrKind, api.ErrBase, api.ErrSum, api.ErrDeep} {
		if seen[e] < 20 {
			t.Errorf("%v: %d of them", e, seen[e])
		}
	}
}

// small are packs of few bytes, and the places of their entries.
func small() map[string][]int {
	m := map[string][]int{}
	l := []pack.Item{blob("hello, world"), blob("hello, world!"), treeOf("a"), blob("a new hello, world!"), tagOf(""), tagOf("x")}
	for chain := range 3 {
		b, p, _ := pack.Write(l, chain)
		for _, x := range p {
			m[string(b)] = append(m[string(b)], x.At)
		}
	}
	b, places := tower(whole(1, "x"), 9, same(1))
	m[b] = places
	return m
}

// TestReadOfSpoilt: each cut, and each byte in each place.
func TestReadOfSpoilt(t *testing.T) {
	for b, places := range small() {
		for k := range len(b) {
			for _, at := range places {
				readsAsModel(t, b[:k], at)
			}
			c := []byte(b)
			for x := range 256 {
				c[k] = byte(x)
				for _, at := range places {
					readsAsModel(t, string(c), at)
				}
			}
		}
	}
}

// P10.3

func TestTrailer(t *testing.T) {
	for _, s := range []string{of(), of(whole(1, "hi")), long(44), long(1 << 21), "PACK" + long(60)} {
		for n := range min(len(s), 80) + 1 {
			id, e := pack.Trailer([]byte(s[:n]))
			if n < 44 && (id != api.ID{} || e != api.ErrEnd) {
				t.Errorf("%d bytes: %v, %v", n, id, e)
			}
			if n >= 44 && (string(id[:]) != s[n-32:n] || e != api.OK) {
				t.Errorf("%d bytes: %v, %v", n, id, e)
			}
		}
		if id, e := pack.Trailer([]byte(s)); string(id[:]) != s[len(s)-32:] || e != api.OK {
			t.Errorf("%s: %v, %v", brief(s), id, e)
		}
	}
	if id, e := pack.Trailer(nil); (id != api.ID{}) || e != api.ErrEnd {
		t.Error(id, e)
	}
}

// entriesOf are n entries of an empty blob.
func entriesOf(n int) string { return strings.Repeat(whole(1, ""), n) }

func TestScanRefuses(t *testing.T) {
	hi, hello := whole(1, "hi"), whole(1, "hello, world")
	wrong := func(b string, at int) string { return b[:at] + string([]byte{b[at] ^ 1}) + b[at+1:] }
	for _, x := range []struct {
		what, b string
		want    api.Errno
	}{
		{"nothing", "", api.ErrEnd},
		{"the word alone", "PACK", api.ErrEnd},
		{"43 bytes", of()[:43], api.ErrEnd},
		{"43 bytes of another form", long(43), api.ErrEnd},
		{"44 bytes of another form", long(44), api.ErrForm},
		{"2^20 bytes of another form", long(1 << 20), api.ErrForm},
		{"2^20 + 1 bytes of another form", long(1<<20 + 1), api.ErrLong},
		{"2^20 + 1 bytes, all else right", closed(head(262) + strings.Repeat(whole(1, long(4000)), 261) + whole(1, long(2699))), api.ErrLong},
		{"many more", long(3 << 20), api.ErrLong},
		{"another word", closed("PACk" + of()[4:12]), api.ErrForm},
		{"the version 0", closed("PACK" + four(0) + four(0)), api.ErrForm},
		{"the version 2", closed("PACK" + four(2) + four(0)), api.ErrForm},
		{"the version 1 the other way round", closed("PACK\x01\x00\x00\x00" + four(0)), api.ErrForm},
		{"another form, and another sum", wrong(of(), 0), api.ErrForm},
		{"another sum", wrong(of(), 43), api.ErrSum},
		{"another sum, at its first byte", wrong(of(hi), len(of(hi))-32), api.ErrSum},
		{"another byte, and so another sum", wrong(of(hi), 18), api.ErrSum},
		{"another sum, and too many", wrong(closed(head(601)), 20), api.ErrSum},
		{"another sum, and an entry of no kind", of("\x00")[:13] + noughts, api.ErrSum},
		{"601", closed(head(601) + entriesOf(601)), api.ErrFull},
		{"601, none of which is there", closed(head(601)), api.ErrFull},
		{"601, the first of which is of no kind", closed(head(601) + "\x00"), api.ErrFull},
		{"2^32 - 1", closed(head(-1)), api.ErrFull},
		{"2^31", closed(head(1 << 31)), api.ErrFull},
		{"one that is not there", closed(head(1)), api.ErrArg},
		{"a second one that is not there", closed(head(2) + hi), api.ErrArg},
		{"600, none of which is there", closed(head(600)), api.ErrArg},
		{"one cut off", closed(head(1) + hi[:len(hi)-1]), api.ErrEnd},
		{"a second one cut off", closed(head(2) + hello + hi[:len(hi)-1]), api.ErrEnd},
		{"one of no kind", of("\x06" + hi[1:]), api.ErrKind},
		{"one with another sum", of(hi[:7] + "o"), api.ErrSum},
		{"a base in the head", of(hello, told(len(hello)+1, same(12))), api.ErrBase},
		{"a script that is none", of(hello, told(len(hello), "\x0c\x01\x02")), api.ErrKind},
		{"a script of another base", of(hello, told(len(hello), same(11))), api.ErrBase},
		{"no tree", of(hello, whole(2, "x")), api.ErrMode},
		{"half a tree", of(whole(2, "1")), api.ErrEnd},
		{"no commit", of(whole(3, "x")), api.ErrForm},
		{"no tag", of(whole(4, "")), api.ErrForm},
		{"no tree that comes of a script", of(whole(2, ""), told(6, "\x00\x01\x00\x01x")), api.ErrMode},
		{"no tree, ahead of one cut off", closed(head(2) + whole(2, "x") + "\x01"), api.ErrMode},
		{"no tree, and bytes left", closed(head(1) + whole(2, "x") + "\x01"), api.ErrMode},
		{"a wrong base of a right one", of(whole(2, "hello, world"), told(18, putScript(12, 0))), api.ErrMode},
		{"bytes left", closed(head(1) + hi + "x"), api.ErrRest},
		{"an entry left", closed(head(1) + hi + hello), api.ErrRest},
		{"an entry left of none", closed(head(0) + hi), api.ErrRest},
		{"a byte left of none", closed(head(0) + "\x06"), api.ErrRest},
		{"a byte left of 600", closed(head(600) + entriesOf(600) + "\x00"), api.ErrRest},
	} {
		if l, e := pack.Scan([]byte(x.b)); len(l) != 0 || e != x.want {
			t.Errorf("%s: %d places, %v, want %v", x.what, len(l), e, x.want)
		}
		scansAsModel(t, x.b)
	}
	for deltas, want := range map[int]api.Errno{8: api.OK, 9: api.ErrDeep, 10: api.ErrDeep} {
		b, _ := tower(whole(1, "x"), deltas, same(1))
		if l, e := pack.Scan([]byte(b)); (len(l) > 0) != (want == api.OK) || e != want {
			t.Errorf("%d on one another: %d places, %v", deltas, len(l), e)
		}
	}
}

func TestScanOfKnown(t *testing.T) {
	hello, turn := whole(1, "hello, world"), script("hello, world", "hello, there")
	there := blob("hello, there")
	second := 12 + len(hello)
	place := func(x pack.Item, at int, load string) pack.Place {
		return pack.Place{ID: idOf(x), At: at, Sum: crc32.ChecksumIEEE([]byte(load))}
	}
	first := place(blob("hello, world"), 12, "hello, world")
	for _, x := range []struct {
		what, b string
		want    []pack.Place
	}{
		{"nothing", of(), nil},
		{"a blob", of(hello), []pack.Place{first}},
		{"one on it", of(hello, told(len(hello), turn)), []pack.Place{first, place(there, second, turn)}},
		{"the same one whole", of(hello, whole(1, "hello, there")), []pack.Place{first, place(there, second, "hello, there")}},
		{"one twice", of(hello, hello), []pack.Place{first, place(blob("hello, world"), second, "hello, world")}},
		{"one that is longer as a script", of(hello, told(len(hello), putScript(12, 0))), []pack.Place{first, place(blob(""), second, putScript(12, 0))}},
		{"one of each kind", of(whole(2, ""), whole(3, string(commitOf("").Body)), whole(4, string(tagOf("").Body))), []pack.Place{
			place(treeOf(), 12, ""), place(commitOf(""), 18, string(commitOf("").Body)), place(tagOf(""), 18+len(whole(3, string(commitOf("").Body))), string(tagOf("").Body))}},
	} {
		if l, e := pack.Scan([]byte(x.b)); !slices.Equal(l, x.want) || e != api.OK {
			t.Errorf("%s: %v, %v, want %v", x.what, l, e, x.want)
		}
		scansAsModel(t, x.b)
	}
	if l, e := pack.Scan([]byte(closed(head(600) + entriesOf(600)))); len(l) != 600 || e != api.OK {
		t.Error(len(l), e)
	}
}

// TestScanOfAny: packs that are wrong in one way or another.
func TestScanOfAny(t *testing.T) {
	r := rand.New(rand.NewSource(5))
	seen := map[api.Errno]int{}
	for range 30000 {
		b, _ := anyPack(r)
		// Trees, commits and tags of anyPack are none. Most of the packs have blobs alone.
		if r.Intn(4) > 0 {
			b = resummed(blobsOnly(b))
		}
		seen[scansAsModel(t, b)]++
	}
	for _, e := range []api.Errno{api.OK, api.ErrArg, api.ErrEnd, api.ErrRest, api.ErrForm, api.ErrLong, api.ErrKind, api.ErrMode, api.ErrBase, api.ErrSum, api.ErrDeep} {
		if seen[e] < 20 {
			t.Errorf("%v: %d of them", e, seen[e])
		}
	}
}

// blobsOnly is a pack in which each whole entry that can be read is a blob.
func blobsOnly(b string) string {
	c := []byte(b)
	for at := 12; at < len(b)-32; {
		x, e := readModel(b, at)
		if e != api.OK {
			break
		}
		if c[at] < 5 {
			c[at] = 1
		}
		at = x.end
	}
	return string(c)
}

// TestScanOfSpoilt: each cut, and each byte in each place, with the sum as it was, and with that of the bytes.
func TestScanOfSpoilt(t *testing.T) {
	for b := range small() {
		for k := range len(b) {
			if k < 32 {
				scansAsModel(t, b[:k])
				continue
			}
			scansAsModel(t, b[:k])
			scansAsModel(t, closed(b[:k-32]))
		}
		for k := range len(b) - 32 {
			c := []byte(b)
			for x := range 256 {
				c[k] = byte(x)
				e := scansAsModel(t, string(c))
				if want := k >= 8; string(c) != b && want && e != api.ErrSum {
					t.Fatalf("byte %d: %v", k, e)
				}
				scansAsModel(t, resummed(string(c)))
			}
		}
		for k := len(b) - 32; k < len(b); k++ {
			c := []byte(b)
			c[k] ^= 64
			if e := scansAsModel(t, string(c)); e != api.ErrSum {
				t.Fatalf("byte %d: %v", k, e)
			}
		}
	}
}

// TestScanOfHard: as many bytes of scripts on one another as there may be.
func TestScanOfHard(t *testing.T) {
	var ops []delta.Op
	for k := range 900 {
		ops = append(ops, delta.Op{Copy: true, From: k, N: 1})
	}
	load := putScript(1000, 900, ops...)
	grow := putScript(900, 1000, delta.Op{Copy: true, N: 900}, delta.Op{Copy: true, N: 100})
	b, n := head(0)+whole(1, long(1000)), 1
	ahead := len(whole(1, long(1000)))
	for k := 0; n < 600 && len(b) < 1<<20-5000; k++ {
		x := told(ahead, []string{load, grow}[k%2])
		if k%9 == 8 {
			x = whole(1, long(1000))
			k = -1
		}
		b += x
		ahead = len(x)
		n++
	}
	b = closed(head(n) + b[12:])
	if l, e := pack.Scan([]byte(b)); len(l) != n || e != api.OK {
		t.Error(n, len(b), len(l), e)
	}
}

// P10.4: that Scan of what Write tells is its places, and Read at each its object, thereAndBack asks; that what is read is the kind and a body of at most 4000 bytes, readsAsModel.

// TestWhatScanTakesIsRead: at each place that Scan tells stands an object that has that id.
func TestWhatScanTakesIsRead(t *testing.T) {
	r := rand.New(rand.NewSource(6))
	right := 0
	for range 10000 {
		b, _ := anyPack(r)
		b = resummed(blobsOnly(b))
		l, e := pack.Scan([]byte(b))
		if e != api.OK {
			continue
		}
		right += len(l)
		for _, p := range l {
			kind, body, e := pack.Read([]byte(b), p.At)
			if e != api.OK || idOf(pack.Item{Kind: kind, Body: body}) != p.ID {
				t.Fatalf("%s at %d: %d, %s, %v", brief(b), p.At, kind, brief(body), e)
			}
		}
	}
	if right < 1000 {
		t.Error(right)
	}
}

// R3: nothing is changed, kept or shared

// roomy is a text with spare room behind it.
func roomy(s string) []byte { return append([]byte(s), "spare room"...)[:len(s)] }

// isWhole asks whether a roomy text and its spare room are as they were.
func isWhole(b []byte, s string) bool {
	return string(b) == s && string(b[:len(s)+10][len(s):]) == "spare room"
}

// overwrite changes a text, and its spare room.
func overwrite(b []byte) {
	b = b[:cap(b)]
	for k := range b {
		b[k] = '#'
	}
}

// someBodies are of blobs, some told by others.
func someBodies() []string {
	return []string{"hello, world", "hello, there", "a new hello, world", "", "0123456789", "01234567890123456789"}
}

// roomyItems are blobs of roomy bodies, with one in the list's spare room.
func roomyItems() []pack.Item {
	var l []pack.Item
	for _, s := range someBodies() {
		l = append(l, pack.Item{Kind: api.Blob, Body: roomy(s)})
	}
	return append(l, blob("spare"))[:len(l)]
}

func TestNothingHandedInIsChanged(t *testing.T) {
	for chain := range 9 {
		l := roomyItems()
		b, _, _ := pack.Write(l, chain)
		for k, s := range someBodies() {
			if l[k].Kind != api.Blob || !isWhole(l[k].Body, s) {
				t.Errorf("chain %d, object %d: %s", chain, k, brief(l[k].Body))
			}
		}
		if spare := l[:len(l)+1][len(l)]; string(spare.Body) != "spare" {
			t.Error(spare)
		}
		c := roomy(string(b))
		p, _ := pack.Scan(c)
		for _, x := range p {
			pack.Read(c, x.At)
		}
		pack.Trailer(c)
		if !isWhole(c, string(b)) {
			t.Errorf("chain %d: %s", chain, brief(c))
		}
	}
}

func TestNothingHandedInIsKept(t *testing.T) {
	for chain := range 9 {
		l := roomyItems()
		b, p, _ := pack.Write(l, chain)
		was, places := string(b), slices.Clone(p)
		for k := range l {
			overwrite(l[k].Body)
			l[k].Kind = 0
		}
		if string(b) != was || !slices.Equal(p, places) {
			t.Errorf("chain %d: %s", chain, brief(b))
		}
		for k, x := range places {
			c := roomy(was)
			_, body, _ := pack.Read(c, x.At)
			overwrite(c)
			if string(body) != someBodies()[k] {
				t.Errorf("chain %d, object %d: %s", chain, k, brief(body))
			}
		}
		c := roomy(was)
		q, _ := pack.Scan(c)
		id, _ := pack.Trailer(c)
		overwrite(c)
		if !slices.Equal(q, places) || string(id[:]) != was[len(was)-32:] {
			t.Errorf("chain %d: %v, %v", chain, q, id)
		}
	}
}

func TestAnswersShareNothing(t *testing.T) {
	for chain := range 9 {
		b, p, _ := pack.Write(roomyItems(), chain)
		c, q, _ := pack.Write(roomyItems(), chain)
		was, places := string(b), slices.Clone(p)
		for _, x := range places {
			_, one, _ := pack.Read(b, x.At)
			_, two, _ := pack.Read(b, x.At)
			text := string(one)
			overwrite(one)
			if string(two) != text || string(b) != was {
				t.Errorf("chain %d, at %d: %s, %s", chain, x.At, brief(two), brief(b))
			}
		}
		one, _ := pack.Scan(b)
		two, _ := pack.Scan(b)
		clear(one[:cap(one)])
		clear(p[:cap(p)])
		overwrite(b)
		if !slices.Equal(two, places) || !slices.Equal(q, places) || string(c) != was {
			t.Errorf("chain %d: %v, %v, %s", chain, two, q, brief(c))
		}
	}
}
