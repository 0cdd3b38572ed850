package store_test

import (
	"bytes"
	"crypto/sha256"
	"encoding/hex"
	"hash/crc32"
	"maps"
	"math"
	"math/rand"
	"slices"
	"sort"
	"strconv"
	"strings"
	"testing"

	"sleuth/api"
	"sleuth/index"
	"sleuth/object"
	"sleuth/oid"
	"sleuth/pack"
	"sleuth/store"
)

// thing is an object.
type thing struct {
	kind int
	body string
}

// laid are its bytes, by the words of chapter 8.
func (x thing) laid() string {
	return []string{"blob", "tree", "commit", "tag"}[x.kind-1] + " " + strconv.Itoa(len(x.body)) + "\x00" + x.body
}

// id is its id.
func (x thing) id() api.ID { return sha256.Sum256([]byte(x.laid())) }

// item is what package pack takes of it.
func (x thing) item() pack.Item { return pack.Item{Kind: x.kind, Body: []byte(x.body)} }

// digits are an id's.
func digits(id api.ID) string { return hex.EncodeToString(id[:]) }

// looseName is the name of an id's loose file.
func looseName(id api.ID) string { return "loose/" + digits(id) }

// noughts are the digits of the id of noughts.
var noughts = strings.Repeat("0", 64)

// long is a text of so many bytes.
func long(n int) string { return strings.Repeat("n", n) }

// blob is the k-th of many blobs.
func blob(k int) thing { return thing{api.Blob, "blob number " + strconv.Itoa(k)} }

// blobs are n of them.
func blobs(n int) []thing {
	var l []thing
	for k := range n {
		l = append(l, blob(k))
	}
	return l
}

// commitText is what a commit's body ends with.
const commitText = "author ann\ntime 5\n\nx"

// things are some objects of each kind, of which some are told by others in a pack.
var things = []thing{
	{api.Tag, "object " + noughts + "\nkind 1\nname v1\ntime 6\n\nwhy"},
	{api.Blob, "hello, world, and all that is in it"},
	{api.Commit, "tree " + noughts + "\n" + commitText},
	{api.Tree, ""},
	{api.Blob, ""},
	{api.Blob, "hello, world, and all that is in it, too"},
	{api.Tree, "1 a\x00" + strings.Repeat("\xab", 32)},
	{api.Blob, "hi"},
	{api.Tag, "object " + noughts + "\nkind 1\nname v2\ntime 6\n\nwhy"},
	{api.Commit, "tree " + noughts + "\nparent " + strings.Repeat("b", 64) + "\n" + commitText},
	{api.Blob, "hello, world, and all that is in it; and more"},
	{api.Blob, "blob 2\x00hi"},
	{api.Blob, long(4000)},
	{api.Tree, "1 a\x00" + strings.Repeat("\xab", 32) + "3 b\x00" + strings.Repeat("\xcd", 32)},
}

// sorted are objects by their kinds, and of one kind by their ids.
func sorted(l []thing) []thing {
	l = slices.Clone(l)
	sort.Slice(l, func(i, j int) bool {
		return l[i].kind < l[j].kind || l[i].kind == l[j].kind && digits(l[i].id()) < digits(l[j].id())
	})
	return l
}

// idsOf are the ids of objects, rising, each once.
func idsOf(l ...thing) []api.ID {
	var ids []api.ID
	for _, x := range l {
		ids = append(ids, x.id())
	}
	return rising(ids)
}

// rising are ids in order, each once.
func rising(l []api.ID) []api.ID {
	has := map[string]api.ID{}
	for _, id := range l {
		has[digits(id)] = id
	}
	var ids []api.ID
	for _, s := range slices.Sorted(maps.Keys(has)) {
		ids = append(ids, has[s])
	}
	return ids
}

// table is files by their names.
type table map[string]string

// with is what two tables have: of one name what the second one has.
func (m table) with(more table) table {
	all := maps.Clone(m)
	if all == nil {
		all = table{}
	}
	maps.Copy(all, more)
	return all
}

// files are a table as a list.
func (m table) files() []store.File {
	var l []store.File
	for name, b := range m {
		l = append(l, store.File{Name: name, Bytes: []byte(b)})
	}
	return l
}

// loose are the loose files of objects.
func loose(l ...thing) table {
	m := table{}
	for _, x := range l {
		m[looseName(x.id())] = x.laid()
	}
	return m
}

// wrongLoose are such files, whose bytes are another one's.
func wrongLoose(l ...thing) table {
	m := table{}
	for _, x := range l {
		m[looseName(x.id())] = "blob 5\x00wrong"
	}
	return m
}

// written is a pack of objects, and their places.
func written(chain int, l ...thing) (string, []pack.Place) {
	var items []pack.Item
	for _, x := range l {
		items = append(items, x.item())
	}
	b, places, e := pack.Write(items, chain)
	if e != api.OK {
		panic(e)
	}
	return string(b), places
}

// trailer is what a pack ends with.
func trailer(b string) api.ID { return api.ID([]byte(b[len(b)-32:])) }

// indexed is an index of places.
func indexed(of api.ID, l ...pack.Place) string {
	b, e := index.Make(l, of)
	if e != api.OK {
		panic(e)
	}
	return string(b)
}

// packed are a pack of objects and its index, under a number.
func packed(n, chain int, l ...thing) table {
	b, places := written(chain, l...)
	return pair(n, b, indexed(trailer(b), places...))
}

// pair are a pack and an index of one number.
func pair(n int, b, x string) table {
	s := strconv.Itoa(n)
	return table{"pack/" + s: b, "index/" + s: x}
}

// wrongPacked are a pack and an index that has places for objects, at each of which another one stands.
func wrongPacked(n int, l ...thing) table {
	b, places := written(0, thing{api.Blob, "wrong"})
	var wrong []pack.Place
	for _, x := range l {
		wrong = append(wrong, pack.Place{ID: x.id(), At: places[0].At, Sum: places[0].Sum})
	}
	return pair(n, b, indexed(trailer(b), wrong...))
}

// load is a store of files.
func load(t *testing.T, m table) *store.Store {
	t.Helper()
	s, e := store.Load(m.files())
	if e != api.OK || s == nil {
		t.Fatalf("a store of %d files: %v", len(m), e)
	}
	return s
}

// tableOf are a store's files.
func tableOf(s *store.Store) table {
	m := table{}
	for _, f := range s.Files() {
		m[f.Name] = string(f.Bytes)
	}
	return m
}

// brief is the beginning of a text that may be long.
func brief(s string) string { return strconv.Quote(s[:min(len(s), 80)]) }

// holds asks whether a store has just these files, and so many turns.
func holds(t *testing.T, what string, s *store.Store, want table, turns int) {
	t.Helper()
	got := tableOf(s)
	for name := range want.with(got) {
		a, hasA := got[name]
		b, hasB := want[name]
		if hasA != hasB || a != b {
			t.Errorf("%s: %s is %s (%v), want %s (%v)", what, brief(name), brief(a), hasA, brief(b), hasB)
		}
	}
	if s.Turns() != turns {
		t.Errorf("%s: %d turns, want %d", what, s.Turns(), turns)
	}
}

// tells asks what Get tells of an object.
func tells(t *testing.T, what string, s *store.Store, x thing) {
	t.Helper()
	if kind, body, e := s.Get(x.id()); kind != x.kind || string(body) != x.body || e != api.OK {
		t.Errorf("%s: %s is %d, %s, %v", what, brief(x.laid()), kind, brief(string(body)), e)
	}
}

// refuses asks which error Get tells of an id, and that it tells nothing else.
func refuses(t *testing.T, what string, s *store.Store, id api.ID, want api.Errno) {
	t.Helper()
	if kind, body, e := s.Get(id); kind != 0 || len(body) != 0 || e != want {
		t.Errorf("%s: %d, %s, %v, want %v", what, kind, brief(string(body)), e, want)
	}
}

// P13.1: names

// rightNames are names that files may have.
var rightNames = []string{
	"refs", "graph", "cache",
	"loose/" + noughts, "loose/" + strings.Repeat("f", 64), "loose/" + strings.Repeat("0123456789abcdef", 4),
	"pack/1", "pack/9", "pack/10", "pack/99", "pack/100", "pack/999",
	"index/1", "index/2", "index/20", "index/500", "index/998", "index/999",
}

// wrongNames are names that none may have.
var wrongNames = []string{
	"", " ", "/", "x", "ref", "refs ", " refs", "refs/", "/refs", "Refs", "REFS", "refs2", "refs\x00", "refs\n", "graphs", "Graph", "graph/", "cach", "caches", "cache/1", "refs/1", "graph/1",
	"loose", "loose/", "loose/" + noughts[:63], "loose/" + noughts + "0", "loose/" + noughts[:62], "loose//" + noughts[:63], "Loose/" + noughts, "loose" + noughts, noughts, "/" + noughts,
	"loose/" + strings.Repeat("A", 64), "loose/" + strings.Repeat("g", 64), "loose/" + noughts[:63] + "F", "loose/" + noughts[:63] + " ", "loose/ " + noughts[:63], "loose/" + noughts + "/", "/loose/" + noughts, "loose/1", "loose/" + noughts[:2] + "/" + noughts[:62],
	"pack", "pack/", "pack/0", "pack/00", "pack/01", "pack/001", "pack/1000", "pack/1001", "pack/9999", "pack/10000", "pack/-1", "pack/+1", "pack/ 1", "pack/1 ", "pack/1/", "pack//1", "pack/1.0", "pack/1e2", "pack/0x1", "pack/a", "pack/1\n", "pack/1\x00", "Pack/1", "pack1", "packs/1", "/pack/1", "pack/" + noughts, "pack/1_0",
	"pack/999999999999999", "pack/1000000000000000", "pack/4294967297", "pack/18446744073709551617", "pack/18446744073709551615", "pack/" + strings.Repeat("9", 1000),
	"index", "index/", "index/0", "index/01", "index/1000", "index/-1", "index/+1", "index/ 1", "index/1 ", "index//1", "Index/1", "index1", "indexes/1", "/index/1", "index/pack/1", "pack/index/1", "index/x", "index/4294967297", "index/18446744073709551617",
}

func TestNames(t *testing.T) {
	for _, name := range rightNames {
		if s, e := store.Load([]store.File{{Name: name, Bytes: []byte("b")}}); e != api.OK {
			t.Errorf("a store of %q: %v", name, e)
		} else {
			holds(t, "a store of "+name, s, table{name: "b"}, 0)
		}
		s := store.New()
		if e := s.Set(name, []byte("b")); e != api.OK {
			t.Errorf("%q: %v", name, e)
		}
		holds(t, name, s, table{name: "b"}, 1)
	}
	s := load(t, table{"refs": "r"})
	for _, name := range wrongNames {
		if s, e := store.Load([]store.File{{Name: name, Bytes: []byte("b")}}); s != nil || e != api.ErrName {
			t.Errorf("a store of %q: %v, %v", name, s, e)
		}
		if e := s.Set(name, []byte("b")); e != api.ErrName {
			t.Errorf("%q: %v", name, e)
		}
		if b, has := s.File(name); len(b) != 0 || has {
			t.Errorf("%q is there: %q", name, b)
		}
		if s.Drop(name) {
			t.Errorf("%q was dropped", name)
		}
	}
	holds(t, "wrong names", s, table{"refs": "r"}, 0)
}

func TestNamesOfEachNumber(t *testing.T) {
	for n := range 1100 {
		for _, dir := range []string{"pack/", "index/"} {
			want := api.OK
			if n < 1 || n > 999 {
				want = api.ErrName
			}
			if e := store.New().Set(dir+strconv.Itoa(n), nil); e != want {
				t.Errorf("%s%d: %v", dir, n, e)
			}
		}
	}
}

func TestNamesOfEachByte(t *testing.T) {
	for c := range 256 {
		for _, k := range []int{0, 1, 31, 62, 63} {
			name := "loose/" + noughts[:k] + string([]byte{byte(c)}) + noughts[k+1:]
			want := api.ErrName
			if strings.IndexByte("0123456789abcdef", byte(c)) >= 0 {
				want = api.OK
			}
			if e := store.New().Set(name, nil); e != want {
				t.Errorf("the byte %d in place %d: %v", c, k, e)
			}
		}
		want := api.ErrName
		if '0' <= c && c <= '9' {
			want = api.OK
		}
		if e := store.New().Set("pack/1"+string([]byte{byte(c)}), nil); e != want {
			t.Errorf("the byte %d in a number: %v", c, e)
		}
	}
}

// P13.1: New, Load, Files, File, Set, Drop

func TestNew(t *testing.T) {
	s := store.New()
	holds(t, "a new store", s, nil, 0)
	if len(s.IDs()) != 0 || len(s.Begins(oid.Prefix{})) != 0 {
		t.Error("a new store has ids")
	}
	if l, e := s.Refs(); len(l) != 0 || e != api.OK {
		t.Error("a new store's refs:", l, e)
	}
	refuses(t, "a new store", s, api.ID{}, api.ErrMissing)
	other := store.New()
	other.Set("refs", []byte("b"))
	holds(t, "a new store, and another one", s, nil, 0)
}

func TestLoad(t *testing.T) {
	for _, l := range [][]store.File{nil, {}} {
		s, e := store.Load(l)
		if e != api.OK {
			t.Fatal("a store of no files:", e)
		}
		holds(t, "no files", s, nil, 0)
		if e := s.Set("refs", []byte("b")); e != api.OK {
			t.Error("a store of no files takes none:", e)
		}
	}
	m := table{}
	for k, name := range rightNames {
		m[name] = long(k)
	}
	for range 20 {
		holds(t, "files of any bytes", load(t, m), m, 0)
	}
}

func TestLoadRefuses(t *testing.T) {
	file := func(name string) store.File { return store.File{Name: name, Bytes: []byte(name)} }
	for k, x := range []struct {
		names string // parted by blanks
		want  api.Errno
	}{
		{"x", api.ErrName}, {"refs x", api.ErrName}, {"x refs", api.ErrName}, {"refs x graph", api.ErrName},
		{"x x", api.ErrName}, {"refs refs x", api.ErrName}, {"x refs refs", api.ErrName}, {"refs x refs", api.ErrName}, {"pack/1 pack/1 pack/01", api.ErrName},
		{"refs refs", api.ErrTwice}, {"refs graph refs", api.ErrTwice}, {"graph refs refs", api.ErrTwice}, {"refs refs refs", api.ErrTwice}, {"pack/1 index/1 pack/2 pack/1", api.ErrTwice},
		{"loose/" + noughts + " loose/" + noughts, api.ErrTwice}, {"index/999 index/999", api.ErrTwice}, {"cache cache", api.ErrTwice},
	} {
		var l []store.File
		for _, name := range strings.Fields(x.names) {
			l = append(l, file(name))
		}
		if s, e := store.Load(l); s != nil || e != x.want {
			t.Errorf("%d: %q: %v, %v, want %v", k, x.names, s, e, x.want)
		}
	}
	other := []store.File{{Name: "refs", Bytes: []byte("a")}, {Name: "refs", Bytes: []byte("b")}}
	if s, e := store.Load(other); s != nil || e != api.ErrTwice {
		t.Error("one name with other bytes:", s, e)
	}
	if s, e := store.Load([]store.File{{Name: "refs"}, {Name: "refs"}}); s != nil || e != api.ErrTwice {
		t.Error("one name without bytes:", s, e)
	}
	if s, e := store.Load([]store.File{{}}); s != nil || e != api.ErrName {
		t.Error("a file of noughts:", s, e)
	}
}

func TestFilesAreInOrder(t *testing.T) {
	m := table{}
	for _, name := range rightNames {
		m[name] = name
	}
	for n := range 150 {
		m["pack/"+strconv.Itoa(n+1)] = "p"
	}
	want := slices.Sorted(maps.Keys(m))
	s := load(t, m)
	var names []string
	for _, f := range s.Files() {
		names = append(names, f.Name)
		if string(f.Bytes) != m[f.Name] {
			t.Errorf("%s: %q", f.Name, f.Bytes)
		}
	}
	if !slices.Equal(names, want) {
		t.Error(names)
	}
	if at := slices.Index(names, "pack/10"); names[at-1] != "pack/1" || names[at+1] != "pack/100" {
		t.Error("numbers are no order of names:", names)
	}
}

func TestFile(t *testing.T) {
	s := load(t, table{"refs": "r", "pack/1": "", "pack/10": "ten"})
	for _, x := range []struct {
		name, want string
		has        bool
	}{
		{"refs", "r", true}, {"pack/1", "", true}, {"pack/10", "ten", true},
		{"graph", "", false}, {"cache", "", false}, {"pack/2", "", false}, {"index/1", "", false}, {"loose/" + noughts, "", false}, {"pack/01", "", false}, {"", "", false},
	} {
		if b, has := s.File(x.name); string(b) != x.want || has != x.has {
			t.Errorf("%q: %q, %v", x.name, b, has)
		}
	}
}

func TestSet(t *testing.T) {
	s := store.New()
	want := table{}
	for turns, x := range []store.File{
		{Name: "refs", Bytes: []byte("one")}, {Name: "graph", Bytes: []byte{}}, {Name: "cache"}, {Name: "refs", Bytes: []byte("two, and longer")},
		{Name: "refs", Bytes: []byte("two, and longer")}, {Name: "refs", Bytes: []byte("3")}, {Name: "refs"}, {Name: "graph", Bytes: []byte(long(100000))}, {Name: "index/7", Bytes: []byte("\x00\xff")},
	} {
		if e := s.Set(x.Name, x.Bytes); e != api.OK {
			t.Errorf("%v: %v", x, e)
		}
		want[x.Name] = string(x.Bytes)
		holds(t, "set "+x.Name, s, want, turns+1)
	}
}

func TestDrop(t *testing.T) {
	m := table{}
	for _, name := range rightNames {
		m[name] = ""
	}
	s := load(t, m)
	turns := 0
	for _, name := range rightNames {
		if !s.Drop(name) {
			t.Errorf("%q wasn't there", name)
		}
		delete(m, name)
		turns++
		holds(t, "dropped "+name, s, m, turns)
		if s.Drop(name) {
			t.Errorf("%q was there twice", name)
		}
		holds(t, "dropped "+name+" twice", s, m, turns)
	}
	s.Set("refs", []byte("b"))
	if b, has := s.File("refs"); string(b) != "b" || !has {
		t.Error("a file that was dropped can't be set again")
	}
}

// P13.2: Get of loose files

func TestGetLoose(t *testing.T) {
	s := load(t, loose(things...))
	for _, x := range things {
		tells(t, "loose", s, x)
	}
	refuses(t, "an id that is none's", s, api.ID{1}, api.ErrMissing)
	refuses(t, "the id of noughts", s, api.ID{}, api.ErrMissing)
	// All but the last digit may be one's.
	id := things[0].id()
	id[31] ^= 1
	refuses(t, "an id that is nearly one's", s, id, api.ErrMissing)
	holds(t, "asked", s, loose(things...), 0)
}

func TestGetSpoiltLoose(t *testing.T) {
	for _, x := range things {
		if len(x.body) > 1000 {
			continue
		}
		b := x.laid()
		for k := range b {
			for _, c := range []byte{b[k] ^ 1, b[k] ^ 32, 0, '0', ' '} {
				if c != b[k] {
					s := load(t, table{looseName(x.id()): b[:k] + string([]byte{c}) + b[k+1:]})
					refuses(t, "the byte "+strconv.Itoa(k)+" of "+brief(b), s, x.id(), api.ErrCorrupt)
				}
			}
			s := load(t, table{looseName(x.id()): b[:k]})
			refuses(t, "cut at "+strconv.Itoa(k)+": "+brief(b), s, x.id(), api.ErrCorrupt)
		}
		for _, more := range []string{"\x00", " ", b} {
			s := load(t, table{looseName(x.id()): b + more})
			refuses(t, "with more behind it: "+brief(b), s, x.id(), api.ErrCorrupt)
		}
	}
}

// Bytes that have their sum, and are no object.
func TestGetLooseThatIsNone(t *testing.T) {
	for _, b := range []string{
		"", "\x00", "hi", "blob", "blob 2", "blob 2hi", "blob 2\x00h", "blob 2\x00hi!", "blob 02\x00hi", "blob  2\x00hi", "blob\x002\x00hi", "Blob 2\x00hi", "blobs 2\x00hi", "file 2\x00hi", " 2\x00hi", "2\x00hi", "blob -2\x00hi", "blob 2 \x00hi", "blob 3\x00hi", "blob 1\x00hi",
		"blob 4001\x00" + long(4001), "blob 000000000000002\x00hi", "tree 1\x00x", "tree 4001\x00" + long(4001), "tree 4\x001 a\x00", "commit 0\x00", "commit 2\x00hi", "tag 0\x00", "tag 2\x00hi",
		"commit " + strconv.Itoa(len(things[0].body)) + "\x00" + things[0].body,
		"tag " + strconv.Itoa(len(things[2].body)) + "\x00" + things[2].body,
		packed(1, 8, things...)["pack/1"], packed(1, 8, things...)["index/1"],
	} {
		id := api.ID(sha256.Sum256([]byte(b)))
		s := load(t, table{looseName(id): b})
		refuses(t, brief(b), s, id, api.ErrCorrupt)
		if l := s.IDs(); !slices.Equal(l, []api.ID{id}) {
			t.Errorf("%s has no place: %v", brief(b), l)
		}
	}
}

func TestGetLooseOfAnotherObject(t *testing.T) {
	for k, x := range things {
		other := things[(k+1)%len(things)]
		s := load(t, table{looseName(x.id()): other.laid()})
		refuses(t, brief(other.laid()), s, x.id(), api.ErrCorrupt)
		refuses(t, "no file of its own", s, other.id(), api.ErrMissing)
	}
	s := load(t, table{"loose/" + noughts: things[0].laid()})
	refuses(t, "the file of noughts", s, api.ID{}, api.ErrCorrupt)
}

// P13.2: Get of packs

func TestGetPacked(t *testing.T) {
	for chain := range 9 {
		for _, n := range []int{1, 2, 10, 500, 999} {
			m := packed(n, chain, things...)
			s := load(t, m)
			for _, x := range things {
				tells(t, "packed", s, x)
			}
			refuses(t, "an id that is none's", s, api.ID{1}, api.ErrMissing)
			if l := s.IDs(); !slices.Equal(l, idsOf(things...)) {
				t.Error("ids of a pack:", l)
			}
			holds(t, "asked", s, m, 0)
		}
	}
}

// spoilt is a text with one bit of a byte the other way; of places below 0 the last ones.
func spoilt(s string, at int) string {
	b := []byte(s)
	b[(at+len(b))%len(b)] ^= 1
	return string(b)
}

func TestWhichIndexesCount(t *testing.T) {
	b, places := written(8, things...)
	x := indexed(trailer(b), places...)
	// A pack of the same objects, in another order.
	other, otherPlaces := written(8, sorted(things)...)
	y := indexed(trailer(other), otherPlaces...)
	closed := func(n int) string { return "PACK" + long(n-36) + b[len(b)-32:] }
	for _, c := range []struct {
		what   string
		m      table
		counts bool
	}{
		{"a pack and its index", pair(1, b, x), true},
		{"of another number", pair(999, b, x), true},
		{"two of them", pair(1, b, x).with(pair(2, other, y)), true},
		{"no pack", table{"index/1": x}, false},
		{"no index", table{"pack/1": b}, false},
		{"the pack has another number", table{"index/1": x, "pack/2": b}, false},
		{"the pack's number begins like it", table{"index/1": x, "pack/11": b}, false},
		{"another one's index", pair(1, b, y), false},
		{"another one's pack", pair(1, other, x), false},
		{"two, the other way round", pair(1, b, y).with(pair(2, other, x)), false},
		{"two, one of which counts", pair(1, b, y).with(pair(2, other, y)), true},
		{"the trailer's first byte is another one", pair(1, spoilt(b, -32), x), false},
		{"the trailer's last byte is another one", pair(1, spoilt(b, -1), x), false},
		{"the byte ahead of the trailer is another one", pair(1, spoilt(b, -33), x), true},
		{"the pack's word is another one", pair(1, spoilt(b, 0), x), true},
		{"the pack's version is another one", pair(1, spoilt(b, 7), x), true},
		{"the pack's number is another one", pair(1, spoilt(b, 11), x), true},
		{"the pack has a byte more", pair(1, b+"\x00", x), false},
		{"the pack has a byte fewer", pair(1, b[:len(b)-1], x), false},
		{"the trailer stands alone", pair(1, b[len(b)-32:], x), false},
		{"the pack has 43 bytes", pair(1, closed(43), x), false},
		{"the pack has 44 bytes", pair(1, closed(44), x), true},
		{"the pack is empty", pair(1, "", x), false},
		{"the index is empty", pair(1, b, ""), false},
		{"the index has a byte more", pair(1, b, x+"\x00"), false},
		{"the index has a byte fewer", pair(1, b, x[:len(x)-1]), false},
		{"the index' word is another one", pair(1, b, spoilt(x, 0)), false},
		{"the index' version is another one", pair(1, b, spoilt(x, 7)), false},
		{"the index' sum is another one", pair(1, b, spoilt(x, -1)), false},
		{"an id in the index is another one", pair(1, b, spoilt(x, 8+1024)), false},
		{"the index' trailer is another one", pair(1, b, spoilt(x, -64)), false},
		{"the pack as the index", pair(1, b, b), false},
		{"the index as the pack", pair(1, x, x), false},
	} {
		s := load(t, c.m)
		var want []api.ID
		if c.counts {
			want = idsOf(things...)
		}
		if l := s.IDs(); !slices.Equal(l, want) {
			t.Errorf("%s: %d ids, want %d", c.what, len(l), len(want))
		}
		for _, x := range things {
			if _, _, e := s.Get(x.id()); (e == api.ErrMissing) == c.counts {
				t.Errorf("%s: %v", c.what, e)
			}
		}
	}
}

// An index that says noughts of its pack is none of a pack that is not there, or has no trailer.
func TestNoTrailerIsNotNoughts(t *testing.T) {
	places := []pack.Place{{ID: things[0].id(), At: 12}}
	x := indexed(api.ID{}, places...)
	for n := range 60 {
		s := load(t, pair(3, strings.Repeat("\x00", n), x))
		want := api.ErrMissing
		if n >= 44 {
			want = api.ErrCorrupt
		}
		refuses(t, strconv.Itoa(n)+" noughts", s, things[0].id(), want)
	}
	refuses(t, "no pack", load(t, table{"index/3": x}), things[0].id(), api.ErrMissing)
}

// What a pack has of an object hangs on the entries of it alone.
func TestGetSpoiltPack(t *testing.T) {
	l := []thing{things[1], things[5], things[7], things[10], things[0], things[8], things[3]}
	b, places := written(8, l...)
	x := indexed(trailer(b), places...)
	told := map[api.Errno]int{}
	for k := range len(b) - 32 {
		for _, bit := range []byte{1, 4, 128} {
			turned := []byte(b)
			turned[k] ^= bit
			m := pair(1, string(turned), x)
			s := load(t, m)
			for _, y := range l {
				kind, body, e := s.Get(y.id())
				wantKind, wantBody, want := m.get(y.id())
				if kind != wantKind || string(body) != wantBody || e != want {
					t.Errorf("the byte %d: %s is %d, %s, %v, want %v", k, brief(y.laid()), kind, brief(string(body)), e, want)
				}
				told[e]++
			}
		}
	}
	if len(told) != 2 || told[api.OK] < 100 || told[api.ErrCorrupt] < 100 {
		t.Error("told:", told)
	}
}

func TestPlacesOfAnyKind(t *testing.T) {
	b, places := written(0, things[:4]...)
	id := things[0].id()
	for at := range len(b) + 3 {
		s := load(t, pair(1, b, indexed(trailer(b), pack.Place{ID: id, At: at})))
		if at == places[0].At {
			tells(t, "its own place, with another sum", s, things[0])
		} else {
			refuses(t, "the place "+strconv.Itoa(at), s, id, api.ErrCorrupt)
		}
	}
	s := load(t, pair(1, b, indexed(trailer(b), pack.Place{ID: id, At: api.MaxPack})))
	refuses(t, "the greatest place", s, id, api.ErrCorrupt)
}

// entry is that of an object that is whole, whatever its body is.
func entry(kind int, body string) string {
	sum := crc32.ChecksumIEEE([]byte(body))
	return string([]byte{byte(kind), byte(len(body)), byte(sum >> 24), byte(sum >> 16), byte(sum >> 8), byte(sum)}) + body
}

// A pack may have bodies that are none of their kind. They have no id, not even that of noughts.
func TestPackedBodiesOfNoKind(t *testing.T) {
	for _, x := range []thing{{api.Tree, "x"}, {api.Commit, ""}, {api.Commit, "hi"}, {api.Tag, "hi"}, {api.Tag, things[2].body}, {api.Commit, things[0].body}} {
		head := "PACK\x00\x00\x00\x01\x00\x00\x00\x01" + entry(x.kind, x.body)
		sum := sha256.Sum256([]byte(head))
		b := head + string(sum[:])
		if kind, body, e := pack.Read([]byte(b), 12); kind != x.kind || string(body) != x.body || e != api.OK {
			t.Fatalf("%q can't be read: %d, %q, %v", b, kind, body, e)
		}
		s := load(t, pair(1, b, indexed(sum, pack.Place{At: 12}, pack.Place{ID: x.id(), At: 12})))
		refuses(t, "noughts of "+brief(x.laid()), s, api.ID{}, api.ErrCorrupt)
		refuses(t, "the sum of "+brief(x.laid()), s, x.id(), api.ErrCorrupt)
		if l := s.IDs(); !slices.Equal(l, rising([]api.ID{{}, x.id()})) {
			t.Error("ids:", l)
		}
	}
}

// An id has a loose file, and places in three packs, each of which is right, wrong, or not there.
func TestFirstPlaceThatIsRight(t *testing.T) {
	x := things[5]
	seats := [][]table{
		{nil, loose(x), wrongLoose(x)},
		{nil, packed(1, 0, x), wrongPacked(1, x)},
		{nil, packed(2, 8, things...), wrongPacked(2, x)},
		{nil, packed(10, 0, x, things[1]), wrongPacked(10, things[1], x)},
	}
	for n := range 81 {
		m := table{}
		want := api.ErrMissing
		for k, way := 0, n; k < len(seats); k, way = k+1, way/3 {
			m = m.with(seats[k][way%3])
			switch {
			case way%3 == 1:
				want = api.OK
			case way%3 == 2 && want != api.OK:
				want = api.ErrCorrupt
			}
		}
		s := load(t, m)
		if want == api.OK {
			tells(t, "seats "+strconv.Itoa(n), s, x)
		} else {
			refuses(t, "seats "+strconv.Itoa(n), s, x.id(), want)
		}
		if _, has := slices.BinarySearchFunc(s.IDs(), x.id(), oid.Compare); has != (want != api.ErrMissing) {
			t.Errorf("seats %d: ids %v", n, s.IDs())
		}
	}
}

// P13.2: Read

func TestRead(t *testing.T) {
	wrong := thing{api.Tree, "1 wrong\x00" + noughts[:32]}
	for _, m := range []table{loose(things...), packed(1, 8, things...)} {
		m = m.with(wrongLoose(wrong))
		s := load(t, m)
		for _, kind := range []int{math.MinInt, -1, 0, 1, 2, 3, 4, 5, 257, math.MaxInt} {
			for _, x := range things {
				body, e := s.Read(x.id(), kind)
				if kind == x.kind && (string(body) != x.body || e != api.OK) {
					t.Errorf("%s: %s, %v", brief(x.laid()), brief(string(body)), e)
				}
				if kind != x.kind && (len(body) != 0 || e != api.ErrType) {
					t.Errorf("%s as one of the kind %d: %s, %v", brief(x.laid()), kind, brief(string(body)), e)
				}
			}
			if body, e := s.Read(api.ID{1}, kind); len(body) != 0 || e != api.ErrMissing {
				t.Errorf("one that is not there, of the kind %d: %q, %v", kind, body, e)
			}
			if body, e := s.Read(wrong.id(), kind); len(body) != 0 || e != api.ErrCorrupt {
				t.Errorf("a wrong one of the kind %d: %q, %v", kind, body, e)
			}
		}
		holds(t, "read", s, m, 0)
	}
}

// P13.2: IDs, Begins

func TestIDs(t *testing.T) {
	last := api.ID(bytes.Repeat([]byte{255}, 32))
	for _, x := range []struct {
		what string
		m    table
		want []api.ID
	}{
		{"none", nil, nil},
		{"no files of objects", table{"refs": "", "graph": "x", "cache": "y"}, nil},
		{"loose", loose(things...), idsOf(things...)},
		{"packed", packed(1, 8, things...), idsOf(things...)},
		{"both", loose(things...).with(packed(1, 8, things...)), idsOf(things...)},
		{"some of both", loose(things[:6]...).with(packed(1, 8, things[3:]...)), idsOf(things...)},
		{"two packs", packed(1, 0, things[:6]...).with(packed(2, 0, things[6:]...)), idsOf(things...)},
		{"two packs that share some", packed(9, 0, things[:8]...).with(packed(10, 0, things[4:]...)), idsOf(things...)},
		{"wrong ones", wrongLoose(things[0]).with(wrongPacked(1, things[1:]...)), idsOf(things...)},
		{"the first one and the last one", table{"loose/" + noughts: "", looseName(last): ""}, []api.ID{{}, last}},
		{"one that doesn't count", loose(things[0]).with(table{"index/1": packed(1, 0, things[1])["index/1"]}), idsOf(things[0])},
		{"a pack of nothing", packed(1, 0), nil},
		{"many", loose(blobs(700)...).with(packed(1, 0, blobs(600)...)), idsOf(blobs(700)...)},
	} {
		if l := load(t, x.m).IDs(); !slices.Equal(l, x.want) {
			t.Errorf("%s: %v", x.what, l)
		}
	}
}

// begun are those of ids whose digits begin so.
func begun(l []api.ID, s string) []api.ID {
	var some []api.ID
	for _, id := range l {
		if strings.HasPrefix(digits(id), s) {
			some = append(some, id)
		}
	}
	return some
}

func TestBegins(t *testing.T) {
	l := blobs(300)
	s := load(t, loose(l[:200]...).with(packed(1, 0, l[150:]...)).with(wrongLoose(things[0])))
	ids := idsOf(append(l, things[0])...)
	if !slices.Equal(s.IDs(), ids) {
		t.Fatal("ids:", s.IDs())
	}
	begins := []string{""}
	for _, c := range "0123456789abcdef" {
		for _, d := range "0123456789abcdef" {
			begins = append(begins, string(c), string(c)+string(d))
		}
	}
	for _, id := range append(ids[:20:20], things[0].id(), api.ID{1}) {
		for n := range 65 {
			begins = append(begins, digits(id)[:n])
		}
	}
	for _, x := range begins {
		p, e := oid.Begin(x)
		if e != api.OK {
			t.Fatal(x, e)
		}
		if got := s.Begins(p); !slices.Equal(got, begun(ids, x)) {
			t.Errorf("%q: %v", x, got)
		}
	}
	for _, p := range []oid.Prefix{{N: -1}, {N: 65}, {N: math.MinInt}, {N: math.MaxInt}, {ID: ids[0]}, {ID: ids[0], N: 3}, {ID: ids[0], N: 63}, {ID: ids[0], N: 65}} {
		if got := s.Begins(p); len(got) != 0 {
			t.Errorf("%v, which is not right: %v", p, got)
		}
	}
	if got := store.New().Begins(oid.Prefix{}); len(got) != 0 {
		t.Error("of a store without files:", got)
	}
}

// P13.3

// put asks what Put tells of an object.
func put(t *testing.T, what string, s *store.Store, x thing, want api.Errno) {
	t.Helper()
	id, e := s.Put(x.kind, []byte(x.body))
	wantID := x.id()
	if want != api.OK {
		wantID = api.ID{}
	}
	if id != wantID || e != want {
		t.Errorf("%s: %s: %v, %v, want %v", what, brief(x.laid()), id, e, want)
	}
}

func TestPut(t *testing.T) {
	s := store.New()
	for k, x := range things {
		put(t, "first", s, x, api.OK)
		holds(t, "put", s, loose(things[:k+1]...), k+1)
		tells(t, "put", s, x)
	}
	for _, x := range things {
		put(t, "again", s, x, api.OK)
	}
	holds(t, "put again", s, loose(things...), len(things))
	// The example, byte by byte.
	hi := looseName(sha256.Sum256([]byte("blob 2\x00hi")))
	if b, has := s.File(hi); string(b) != "blob 2\x00hi" || !has {
		t.Errorf("the blob hi: %q, %v", b, has)
	}
}

func TestPutRefuses(t *testing.T) {
	for _, m := range []table{nil, loose(things...), loose(blobs(600)...)} {
		s := load(t, m)
		for _, x := range []struct {
			kind int
			body string
			want api.Errno
		}{
			{0, "", api.ErrKind}, {-1, "hi", api.ErrKind}, {5, "hi", api.ErrKind}, {math.MaxInt, "", api.ErrKind}, {math.MinInt, "", api.ErrKind}, {257, "hi", api.ErrKind}, {5, long(4001), api.ErrKind},
			{api.Blob, long(4001), api.ErrLong}, {api.Tree, long(4001), api.ErrLong}, {api.Commit, long(4001), api.ErrLong}, {api.Tag, long(100000), api.ErrLong},
			{api.Tree, "x", api.ErrMode}, {api.Tree, "1", api.ErrEnd}, {api.Tree, "1 \x00" + noughts[:32], api.ErrName}, {api.Tree, "1 a\x00" + noughts[:31], api.ErrEnd},
			{api.Tree, "1 b\x00" + noughts[:32] + "1 a\x00" + noughts[:32], api.ErrOrder}, {api.Tree, "1 a\x00" + noughts[:32] + "2 a\x00" + noughts[:32], api.ErrTwice},
			{api.Commit, "", api.ErrForm}, {api.Commit, "tree " + noughts + "\nauthor \ntime 5\n\n", api.ErrName}, {api.Commit, things[0].body, api.ErrForm},
			{api.Tag, "", api.ErrForm}, {api.Tag, "object " + noughts + "\nkind 5\nname v1\ntime 6\n\nwhy", api.ErrKind}, {api.Tag, things[2].body, api.ErrForm},
		} {
			if id, e := s.Put(x.kind, []byte(x.body)); id != (api.ID{}) || e != x.want {
				t.Errorf("%d, %s: %v, %v, want %v", x.kind, brief(x.body), id, e, x.want)
			}
			if e := object.Check(x.kind, []byte(x.body)); e != x.want {
				t.Errorf("%d, %s: object.Check tells %v, want %v", x.kind, brief(x.body), e, x.want)
			}
		}
		holds(t, "refused", s, m, 0)
	}
}

// What is there and right stays as it is; else the loose file is set, whatever stood there.
func TestPutOfWhatHasAPlace(t *testing.T) {
	x := things[1]
	pack1, wrong1 := packed(1, 8, things...), wrongPacked(1, x)
	for _, c := range []struct {
		what string
		m    table
		sets bool
	}{
		{"no place", loose(things[0]), true},
		{"loose", loose(things...), false},
		{"packed", pack1, false},
		{"both", pack1.with(loose(things...)), false},
		{"a wrong loose file", wrongLoose(x), true},
		{"an empty loose file", table{looseName(x.id()): ""}, true},
		{"another one's loose file", table{looseName(x.id()): things[0].laid()}, true},
		{"a wrong place in a pack", wrong1, true},
		{"both, both wrong", wrong1.with(wrongLoose(x)), true},
		{"both, the loose file wrong", pack1.with(wrongLoose(x)), false},
		{"both, the pack wrong", wrong1.with(loose(x)), false},
		{"two packs, the first one wrong", wrong1.with(packed(2, 0, x)), false},
		{"two packs, the second one wrong", pack1.with(wrongPacked(2, x)), false},
		{"two packs, both wrong", wrong1.with(wrongPacked(2, x)), true},
		{"an index that doesn't count", table{"index/1": pack1["index/1"]}, true},
	} {
		s := load(t, c.m)
		put(t, c.what, s, x, api.OK)
		want, turns := c.m, 0
		if c.sets {
			want, turns = c.m.with(loose(x)), 1
		}
		holds(t, c.what, s, want, turns)
		tells(t, c.what, s, x)
		put(t, c.what+", again", s, x, api.OK)
		holds(t, c.what+", again", s, want, turns)
	}
}

func TestPutOfAFullStore(t *testing.T) {
	more := blob(1000)
	l := blobs(601)
	for _, c := range []struct {
		what string
		m    table
		want api.Errno
	}{
		{"599 loose", loose(l[:599]...), api.OK},
		{"600 loose", loose(l[:600]...), api.ErrFull},
		{"601 loose", loose(l[:601]...), api.ErrFull},
		{"599 packed", packed(1, 0, l[:599]...), api.OK},
		{"600 packed", packed(1, 0, l[:600]...), api.ErrFull},
		{"300 of both", loose(l[:300]...).with(packed(1, 0, l[300:600]...)), api.ErrFull},
		{"400 of both, of which 200 are one", loose(l[:400]...).with(packed(1, 0, l[200:600]...)), api.ErrFull},
		{"400 of both, of which 201 are one", loose(l[:400]...).with(packed(1, 0, l[199:599]...)), api.OK},
		{"600 in two packs", packed(1, 0, l[:300]...).with(packed(2, 0, l[300:600]...)), api.ErrFull},
		{"599 in two packs, some twice", packed(1, 0, l[:400]...).with(packed(2, 0, l[300:599]...)), api.OK},
		{"600, all wrong", wrongLoose(l[:600]...), api.ErrFull},
		{"600, one of them wrong", loose(l[:599]...).with(wrongLoose(l[599])), api.ErrFull},
		{"599, and a wrong one of its own", loose(l[:599]...).with(wrongLoose(more)), api.OK},
		{"600, and a wrong one of its own", loose(l[:600]...).with(wrongLoose(more)), api.OK},
		{"601, and a wrong one of its own in a pack", loose(l...).with(wrongPacked(1, more)), api.OK},
		{"600, and itself", loose(l[:600]...).with(loose(more)), api.OK},
		{"600, and itself packed", loose(l[:600]...).with(packed(1, 0, more)), api.OK},
		{"599, and indexes that don't count", loose(l[:599]...).with(table{"index/1": packed(1, 0, l[590:]...)["index/1"]}), api.OK},
		{"600, and an index of it that doesn't count", loose(l[:600]...).with(table{"index/1": packed(1, 0, more)["index/1"]}), api.ErrFull},
		{"600, and other files", loose(l[:600]...).with(table{"refs": "", "pack/7": "x"}), api.ErrFull},
		{"599, and other files", loose(l[:599]...).with(table{"refs": "", "graph": "", "cache": "", "pack/7": "x", "index/7": "y"}), api.OK},
	} {
		s := load(t, c.m)
		_, _, before := s.Get(more.id())
		put(t, c.what, s, more, c.want)
		want, turns := c.m, 0
		if c.want == api.OK && before != api.OK {
			want, turns = c.m.with(loose(more)), 1
		}
		holds(t, c.what, s, want, turns)
		put(t, c.what+", of one that is there", s, l[0], api.OK)
		if _, e := s.Put(api.Tree, []byte("x")); e != api.ErrMode {
			t.Errorf("%s: a wrong body: %v", c.what, e)
		}
	}
}

func TestPutUpToTheLimit(t *testing.T) {
	s := store.New()
	l := blobs(602)
	for _, x := range l[:600] {
		put(t, "of 600", s, x, api.OK)
	}
	holds(t, "600", s, loose(l[:600]...), 600)
	put(t, "one more", s, l[600], api.ErrFull)
	if n, e := s.Repack(0); n != 600 || e != api.OK {
		t.Error("packed:", n, e)
	}
	put(t, "one more, packed", s, l[600], api.ErrFull)
	put(t, "one that is there, packed", s, l[5], api.OK)
	holds(t, "packed", s, packed(1, 0, sorted(l[:600])...), 601)
	s.Drop("index/1")
	put(t, "one more, without an index", s, l[600], api.OK)
}

// P13.4

func TestRepack(t *testing.T) {
	for chain := range 9 {
		want := packed(1, chain, sorted(things)...)
		for k, m := range []table{
			loose(things...),
			loose(things...).with(wrongPacked(3)), // a pack and an index of none of them
			packed(1, 8-chain, things...),
			loose(things[:7]...).with(packed(4, chain, things[5:]...)),
			packed(2, 0, things[:7]...).with(packed(1, 8, things[6:]...)),
			packed(1, 0, things...).with(wrongLoose(things[:3]...)),
			wrongPacked(1, things[3], things[4]).with(packed(2, 8, things...)),
		} {
			s := load(t, m)
			n := highest(m) + 1
			if n, e := s.Repack(chain); n != len(things) || e != api.OK {
				t.Errorf("chain %d, %d: %d, %v", chain, k, n, e)
			}
			s2 := load(t, renumbered(want, n))
			holds(t, "chain "+strconv.Itoa(chain)+", "+strconv.Itoa(k), s, tableOf(s2), 1)
			for _, x := range things {
				tells(t, "packed anew", s, x)
			}
		}
	}
	if whole, told := packed(1, 0, sorted(things)...), packed(1, 8, sorted(things)...); len(whole["pack/1"]) <= len(told["pack/1"]) {
		t.Error("none of the things is told by another one")
	}
}

// highest is the greatest number of a pack, or an index.
func highest(m table) int {
	most := 0
	for name := range m {
		for _, dir := range []string{"pack/", "index/"} {
			if s, has := strings.CutPrefix(name, dir); has {
				n, _ := strconv.Atoi(s)
				most = max(most, n)
			}
		}
	}
	return most
}

// renumbered are a pack and an index of the number 1 under another one.
func renumbered(m table, n int) table { return pair(n, m["pack/1"], m["index/1"]) }

// Objects stand by their kinds, and of one kind by their ids, however they were put.
func TestRepackPutsObjectsInOrder(t *testing.T) {
	r := rand.New(rand.NewSource(134))
	l := append(blobs(60), things...)
	want := packed(1, 3, sorted(l)...)
	for range 5 {
		r.Shuffle(len(l), func(i, j int) { l[i], l[j] = l[j], l[i] })
		s := store.New()
		for _, x := range l {
			put(t, "shuffled", s, x, api.OK)
		}
		if n, e := s.Repack(3); n != len(l) || e != api.OK {
			t.Error(n, e)
		}
		holds(t, "shuffled", s, want, len(l)+1)
	}
	places, e := pack.Scan([]byte(want["pack/1"]))
	if e != api.OK || len(places) != len(l) {
		t.Fatal(len(places), e)
	}
	last := 0
	for k, p := range places {
		kind, _, _ := load(t, want).Get(p.ID)
		if kind < last || kind == last && digits(places[k-1].ID) >= digits(p.ID) {
			t.Error("the order is another one at", k)
		}
		last = kind
	}
}

func TestRepackOfNothing(t *testing.T) {
	s := store.New()
	if n, e := s.Repack(8); n != 0 || e != api.OK {
		t.Error(n, e)
	}
	want := packed(1, 0)
	holds(t, "nothing", s, want, 1)
	if len(want["pack/1"]) != 44 || len(want["index/1"]) != 1096 {
		t.Error("lengths:", len(want["pack/1"]), len(want["index/1"]))
	}
	if n, e := s.Repack(0); n != 0 || e != api.OK {
		t.Error(n, e)
	}
	holds(t, "nothing, twice", s, renumbered(want, 2), 2)
}

func TestRepackLeavesOtherFiles(t *testing.T) {
	others := table{"refs": "r", "graph": "", "cache": "c"}
	s := load(t, others.with(loose(things...)).with(table{"pack/5": "x", "index/6": "y"}))
	if n, e := s.Repack(8); n != len(things) || e != api.OK {
		t.Error(n, e)
	}
	holds(t, "other files", s, others.with(renumbered(packed(1, 8, sorted(things)...), 7)), 1)
}

func TestRepackNumbers(t *testing.T) {
	want := packed(1, 0, things[0])
	for _, x := range []struct {
		names string // parted by blanks
		want  int
	}{
		{"", 1}, {"pack/1", 2}, {"index/1", 2}, {"pack/1 index/1", 2}, {"pack/5", 6}, {"index/5", 6}, {"pack/3 index/7", 8}, {"pack/7 index/3", 8},
		{"pack/9 pack/10", 11}, {"index/9 index/10", 11}, {"pack/99 index/100", 101}, {"index/99 pack/100", 101}, {"pack/2 pack/4", 5},
		{"pack/998", 999}, {"index/998", 999}, {"pack/998 index/998", 999}, {"pack/998 pack/9 index/1", 999},
	} {
		m := loose(things[0])
		for _, name := range strings.Fields(x.names) {
			m[name] = "none"
		}
		s := load(t, m)
		if n, e := s.Repack(8); n != 1 || e != api.OK {
			t.Errorf("%q: %d, %v", x.names, n, e)
		}
		holds(t, x.names, s, renumbered(want, x.want), 1)
	}
	s := load(t, loose(things[0]))
	for n := range 20 {
		if _, e := s.Repack(8); e != api.OK {
			t.Error(n, e)
		}
		holds(t, "again and again", s, renumbered(want, n+1), n+1)
	}
}

// noise are blobs of the longest kind that are not like one another.
func noise(n int) []thing {
	r := rand.New(rand.NewSource(135))
	var l []thing
	for range n {
		body := make([]byte, 4000)
		r.Read(body)
		l = append(l, thing{api.Blob, string(body)})
	}
	return l
}

func TestRepackRefuses(t *testing.T) {
	few, many, great := loose(things...), loose(blobs(601)...), loose(noise(265)...)
	wrong := blob(2000)
	last := table{"pack/999": ""}
	for _, x := range []struct {
		what  string
		m     table
		chain int
		want  api.Errno
	}{
		{"a chain below 0", few, -1, api.ErrArg},
		{"a chain of 9", few, 9, api.ErrArg},
		{"the least chain", few, math.MinInt, api.ErrArg},
		{"the greatest chain", few, math.MaxInt, api.ErrArg},
		{"a chain of 9 of nothing", nil, 9, api.ErrArg},
		{"a chain of 9 ahead of a wrong object", few.with(wrongLoose(wrong)), 9, api.ErrArg},
		{"a chain below 0 ahead of the number", few.with(last), -1, api.ErrArg},
		{"a chain of 9 ahead of too many", many, 9, api.ErrArg},
		{"a wrong loose file", few.with(wrongLoose(wrong)), 8, api.ErrCorrupt},
		{"a wrong loose file alone", wrongLoose(wrong), 0, api.ErrCorrupt},
		{"a loose file of noughts", few.with(table{"loose/" + noughts: ""}), 8, api.ErrCorrupt},
		{"a wrong place in a pack", few.with(wrongPacked(1, wrong)), 8, api.ErrCorrupt},
		{"a wrong object ahead of the number", few.with(wrongLoose(wrong)).with(last), 8, api.ErrCorrupt},
		{"a wrong object ahead of too many", many.with(wrongLoose(wrong)), 8, api.ErrCorrupt},
		{"a wrong object ahead of too long", great.with(wrongLoose(wrong)), 0, api.ErrCorrupt},
		{"a pack of the number 999", few.with(last), 8, api.ErrFull},
		{"an index of the number 999", few.with(table{"index/999": ""}), 8, api.ErrFull},
		{"both of the number 999", packed(999, 8, things...), 8, api.ErrFull},
		{"a pack of the number 999 of nothing", last, 8, api.ErrFull},
		{"the number ahead of too long", great.with(last), 0, api.ErrFull},
		{"601 objects", many, 0, api.ErrFull},
		{"601 objects of 4000 bytes", loose(noise(601)...), 0, api.ErrFull},
		{"too long", great, 0, api.ErrLong},
	} {
		s := load(t, x.m)
		if n, e := s.Repack(x.chain); n != 0 || e != x.want {
			t.Errorf("%s: %d, %v, want %v", x.what, n, e, x.want)
		}
		holds(t, x.what, s, x.m, 0)
	}
	// Of 261 such blobs the pack is not too long, and has 1045088 bytes.
	l := noise(261)
	s := load(t, loose(l...))
	if n, e := s.Repack(0); n != 261 || e != api.OK {
		t.Error("261 blobs of 4000 bytes:", n, e)
	}
	holds(t, "261 blobs of 4000 bytes", s, packed(1, 0, sorted(l)...), 1)
}

func TestRepackOf600(t *testing.T) {
	l := blobs(600)
	s := load(t, loose(l...))
	if n, e := s.Repack(8); n != 600 || e != api.OK {
		t.Error(n, e)
	}
	holds(t, "600", s, packed(1, 8, sorted(l)...), 1)
	for _, x := range l {
		tells(t, "600", s, x)
	}
}

// P13.5

// lines is a table of names as text.
func lines(l ...api.Ref) string {
	s := ""
	for _, r := range l {
		s += digits(r.ID) + " " + r.Name + "\n"
	}
	return s
}

// ref is a name for an id that begins with a byte.
func ref(name string, first byte) api.Ref { return api.Ref{Name: name, ID: api.ID{first}} }

// manyRefs are n of them, in order.
func manyRefs(n int) []api.Ref {
	var l []api.Ref
	for k := range n {
		l = append(l, ref("heads/n"+strconv.Itoa(1000+k), byte(k)))
	}
	return l
}

// wrongRefs are texts that are no tables, by their errors.
var wrongRefs = []struct {
	text string
	want api.Errno
}{
	{"x", api.ErrForm}, {"\n", api.ErrForm}, {noughts, api.ErrForm}, {noughts + " a", api.ErrForm}, {noughts + "a\n", api.ErrForm}, {noughts[:63] + " a\n", api.ErrForm}, {noughts[:63] + "A a\n", api.ErrForm},
	{noughts + " \n", api.ErrName}, {noughts + " a b\n", api.ErrName}, {lines(ref("a", 1), ref("a", 1)), api.ErrTwice}, {lines(ref("b", 1), ref("a", 1)), api.ErrOrder}, {lines(manyRefs(65)...), api.ErrFull},
}

func TestRefs(t *testing.T) {
	for _, l := range [][]api.Ref{nil, {ref("a", 1)}, {ref("a", 0), ref("heads/a", 2), ref("tags/a", 3)}, manyRefs(64)} {
		m := table{"refs": lines(l...)}
		s := load(t, m)
		if got, e := s.Refs(); !slices.Equal(got, l) || e != api.OK {
			t.Errorf("%v: %v, %v", l, got, e)
		}
		holds(t, "asked", s, m, 0)
	}
	if got, e := load(t, table{"graph": lines(ref("a", 1))}).Refs(); len(got) != 0 || e != api.OK {
		t.Error("no file refs:", got, e)
	}
	for _, x := range wrongRefs {
		if got, e := load(t, table{"refs": x.text}).Refs(); len(got) != 0 || e != x.want {
			t.Errorf("%s: %v, %v, want %v", brief(x.text), got, e, x.want)
		}
	}
}

func TestSetRef(t *testing.T) {
	s := store.New()
	want := table{}
	for turns, x := range []struct {
		r    api.Ref
		text string
	}{
		{ref("heads/main", 1), lines(ref("heads/main", 1))},
		{ref("tags/v1", 2), lines(ref("heads/main", 1), ref("tags/v1", 2))},
		{ref("HEAD", 3), lines(ref("HEAD", 3), ref("heads/main", 1), ref("tags/v1", 2))},
		{ref("heads/main", 4), lines(ref("HEAD", 3), ref("heads/main", 4), ref("tags/v1", 2))},
		{ref("heads/main", 4), lines(ref("HEAD", 3), ref("heads/main", 4), ref("tags/v1", 2))},
		{ref("tags/v1", 0), lines(ref("HEAD", 3), ref("heads/main", 4), ref("tags/v1", 0))},
	} {
		if e := s.SetRef(x.r.Name, x.r.ID); e != api.OK {
			t.Error(x.r, e)
		}
		want["refs"] = x.text
		holds(t, "set "+x.r.Name, s, want, turns+1)
	}
}

func TestDropRef(t *testing.T) {
	a, b, c := ref("HEAD", 1), ref("heads/main", 2), ref("tags/v1", 3)
	s := load(t, table{"refs": lines(a, b, c), "graph": "g"})
	for turns, x := range []struct{ name, text string }{
		{"heads/main", lines(a, c)}, {"tags/v1", lines(a)}, {"HEAD", ""},
	} {
		if e := s.DropRef(x.name); e != api.OK {
			t.Error(x.name, e)
		}
		holds(t, "dropped "+x.name, s, table{"refs": x.text, "graph": "g"}, turns+1)
		if e := s.DropRef(x.name); e != api.ErrRef {
			t.Error(x.name, "twice:", e)
		}
		holds(t, "dropped "+x.name+" twice", s, table{"refs": x.text, "graph": "g"}, turns+1)
	}
}

func TestSetRefAndDropRefRefuse(t *testing.T) {
	few := table{"refs": lines(ref("a", 1), ref("b", 2))}
	full := table{"refs": lines(manyRefs(64)...)}
	for _, x := range []struct {
		what, name string
		m          table
		set, drop  api.Errno
	}{
		{"no name", "", few, api.ErrName, api.ErrRef},
		{"no path", "a//b", few, api.ErrName, api.ErrRef},
		{"a line's end", "c\n", few, api.ErrName, api.ErrRef},
		{"no path, of no file", "a b", nil, api.ErrName, api.ErrRef},
		{"a 65th name", "a", full, api.ErrFull, api.ErrRef},
		{"no path, of 64 names", "/", full, api.ErrName, api.ErrRef},
	} {
		s := load(t, x.m)
		if e := s.SetRef(x.name, api.ID{9}); e != x.set {
			t.Errorf("%s: set: %v, want %v", x.what, e, x.set)
		}
		if e := s.DropRef(x.name); e != x.drop {
			t.Errorf("%s: dropped: %v, want %v", x.what, e, x.drop)
		}
		holds(t, x.what, s, x.m, 0)
	}
	for _, x := range wrongRefs {
		s := load(t, table{"refs": x.text})
		for _, name := range []string{"", "a", "b", "heads/n1000", "z", "a b"} {
			if e := s.SetRef(name, api.ID{9}); e != x.want {
				t.Errorf("%q in %s: set: %v, want %v", name, brief(x.text), e, x.want)
			}
			if e := s.DropRef(name); e != x.want {
				t.Errorf("%q in %s: dropped: %v, want %v", name, brief(x.text), e, x.want)
			}
		}
		holds(t, "refused", s, table{"refs": x.text}, 0)
	}
	s := store.New()
	if e := s.DropRef("a"); e != api.ErrRef {
		t.Error("dropped of no file:", e)
	}
	holds(t, "dropped of no file", s, nil, 0)
	s = load(t, full)
	if e := s.SetRef("heads/n1063", api.ID{9}); e != api.OK {
		t.Error("one of 64 names:", e)
	}
}

func TestTurns(t *testing.T) {
	x, wrong := things[1], things[5]
	s := load(t, loose(things[0]).with(wrongLoose(wrong)))
	want := 0
	step := func(what string, more int) {
		t.Helper()
		want += more
		if s.Turns() != want {
			t.Errorf("%s: %d turns, want %d", what, s.Turns(), want)
			want = s.Turns()
		}
	}
	step("loaded", 0)
	s.Put(x.kind, []byte(x.body))
	step("put", 1)
	s.Put(x.kind, []byte(x.body))
	step("put again", 0)
	s.Put(api.Tree, []byte("x"))
	step("put what is none", 0)
	s.Repack(8)
	step("repack of a wrong one", 0)
	s.Put(wrong.kind, []byte(wrong.body))
	step("put in a wrong one's place", 1)
	s.Repack(9)
	step("repack with another chain", 0)
	s.Repack(8)
	step("repack", 1)
	s.Repack(8)
	step("repack again", 1)
	s.Put(x.kind, []byte(x.body))
	step("put what is packed", 0)
	s.Set("graph", nil)
	step("set", 1)
	s.Set("graph", nil)
	step("set again", 1)
	s.Set("graphs", nil)
	step("set what is none", 0)
	s.Drop("graph")
	step("drop", 1)
	s.Drop("graph")
	step("drop again", 0)
	s.SetRef("a", x.id())
	step("set a name", 1)
	s.SetRef("a", x.id())
	step("set a name again", 1)
	s.SetRef("", x.id())
	step("set a name that is none", 0)
	s.DropRef("a")
	step("drop a name", 1)
	s.DropRef("a")
	step("drop a name again", 0)
	ask(s)
	step("ask", 0)
	other, e := store.Load(s.Files())
	if e != api.OK || other.Turns() != 0 {
		t.Error("loaded anew:", other.Turns(), e)
	}
	other.Drop("refs")
	step("drop of another one", 0)
}

// ask calls all that only asks.
func ask(s *store.Store) {
	s.Files()
	s.File("refs")
	for _, x := range things {
		s.Get(x.id())
		s.Read(x.id(), x.kind)
	}
	s.IDs()
	s.Begins(oid.Prefix{})
	s.Refs()
	s.Turns()
}

// P13.6

func TestStoresThatNoCallMade(t *testing.T) {
	for k, s := range []*store.Store{nil, {}, new(store.Store)} {
		for range 2 {
			if s.Files() != nil || s.Turns() != 0 || len(s.IDs()) != 0 || len(s.Begins(oid.Prefix{})) != 0 || len(s.Begins(oid.Prefix{N: 65})) != 0 {
				t.Error(k, "has files, or ids")
			}
			for _, name := range []string{"refs", "pack/1", "x", ""} {
				if b, has := s.File(name); b != nil || has {
					t.Error(k, name, b, has)
				}
				if e := s.Set(name, []byte("b")); e != api.ErrNil {
					t.Error(k, "set", name, e)
				}
				if s.Drop(name) {
					t.Error(k, "dropped", name)
				}
				if e := s.SetRef(name, api.ID{1}); e != api.ErrNil {
					t.Error(k, "set a name", name, e)
				}
				if e := s.DropRef(name); e != api.ErrNil {
					t.Error(k, "dropped a name", name, e)
				}
			}
			for kind := range 6 {
				if id, e := s.Put(kind, []byte("hi")); id != (api.ID{}) || e != api.ErrNil {
					t.Error(k, "put", kind, id, e)
				}
				if b, e := s.Read(api.ID{1}, kind); b != nil || e != api.ErrNil {
					t.Error(k, "read", kind, b, e)
				}
			}
			if id, e := s.Put(api.Blob, []byte(long(4001))); id != (api.ID{}) || e != api.ErrNil {
				t.Error(k, "put too much:", id, e)
			}
			for _, id := range []api.ID{{}, {1}} {
				if kind, b, e := s.Get(id); kind != 0 || b != nil || e != api.ErrNil {
					t.Error(k, "get", kind, b, e)
				}
			}
			for _, chain := range []int{-1, 0, 8, 9} {
				if n, e := s.Repack(chain); n != 0 || e != api.ErrNil {
					t.Error(k, "repack", chain, n, e)
				}
			}
			if l, e := s.Refs(); l != nil || e != api.ErrNil {
				t.Error(k, "refs", l, e)
			}
		}
	}
}

// P13.7

// What was put is got through packs of any chains.
func TestWhatWasPutIsGot(t *testing.T) {
	r := rand.New(rand.NewSource(136))
	s := store.New()
	var l []thing
	for k := range 120 {
		x := blob(k)
		if len(l) > 0 && r.Intn(3) > 0 {
			x = thing{api.Blob, l[r.Intn(len(l))].body + strconv.Itoa(k)}
		}
		l = append(l, x)
		put(t, "one more", s, x, api.OK)
		if r.Intn(8) == 0 {
			if n, e := s.Repack(r.Intn(9)); n != len(l) || e != api.OK {
				t.Error("packed:", n, e)
			}
			for _, x := range l {
				tells(t, "packed", s, x)
			}
		}
	}
	for _, s := range []*store.Store{s, load(t, tableOf(s))} {
		for _, x := range l {
			tells(t, "at last", s, x)
			if body, e := s.Read(x.id(), x.kind); string(body) != x.body || e != api.OK {
				t.Error("read at last:", brief(string(body)), e)
			}
		}
		if !slices.Equal(s.IDs(), idsOf(l...)) {
			t.Error("ids at last:", s.IDs())
		}
	}
}

// Whatever bytes files have, each call ends, and what is told has its id.
func TestFilesOfAnyBytes(t *testing.T) {
	r := rand.New(rand.NewSource(138))
	for range 300 {
		m := packed(1, 8, things...).with(packed(2, 0, things...)).with(loose(things...))
		for name, b := range m {
			if r.Intn(3) == 0 || b == "" {
				continue
			}
			turned := []byte(b)
			for range 1 + r.Intn(4) {
				turned[r.Intn(len(turned))] = byte(r.Intn(256))
			}
			m[name] = string(turned[:len(turned)-r.Intn(2)*r.Intn(len(turned))])
		}
		s := load(t, m)
		for _, id := range s.IDs() {
			if kind, body, e := s.Get(id); e == api.OK && (thing{kind, string(body)}).id() != id {
				t.Errorf("%s is told of %s", brief(string(body)), digits(id))
			} else if e != api.OK && e != api.ErrCorrupt {
				t.Error("one that has a place:", e)
			}
		}
		_, _, want := m.repack(8)
		if _, e := s.Repack(8); e != want {
			t.Error("packed:", e, want)
		}
	}
}

// R3, R4

func TestListsAreLeft(t *testing.T) {
	whole := []byte("hi, spare room")
	body := whole[:2]
	s := store.New()
	s.Put(api.Blob, body)
	s.Set("graph", body)
	files := []store.File{{Name: "refs", Bytes: body}, {Name: "x"}, {Name: "graph", Bytes: body}}
	other, e := store.Load(files[:1])
	if e != api.OK {
		t.Fatal(e)
	}
	store.Load(files)
	other.Set("refs", []byte("longer than that"))
	other.Put(api.Blob, body)
	if string(whole) != "hi, spare room" || files[0].Name != "refs" || len(files[0].Bytes) != 2 || files[1].Name != "x" || files[2].Name != "graph" {
		t.Errorf("a list that was handed in was changed: %q, %v", whole, files)
	}
}

func TestListsAreNotKept(t *testing.T) {
	body := []byte("hi")
	files := []store.File{{Name: "cache", Bytes: body}, {Name: "refs"}}
	s, e := store.Load(files)
	if e != api.OK {
		t.Fatal(e)
	}
	s.Set("graph", body)
	s.Put(api.Blob, body)
	x := thing{api.Blob, "hi"}
	copy(body, "ho")
	files[0], files[1] = store.File{Name: "pack/1"}, store.File{Name: "pack/2"}
	holds(t, "bytes that were changed", s, loose(x).with(table{"cache": "hi", "graph": "hi", "refs": ""}), 2)
	tells(t, "bytes that were changed", s, x)
}

// answers is all that a store tells, each as memory of its own.
func answers(s *store.Store) ([][]byte, [][]api.ID, []api.Ref) {
	var l [][]byte
	for _, f := range s.Files() {
		b, _ := s.File(f.Name)
		l = append(l, f.Bytes, b)
	}
	for _, x := range things {
		_, body, _ := s.Get(x.id())
		again, _ := s.Read(x.id(), x.kind)
		l = append(l, body, again)
	}
	names, _ := s.Refs()
	return l, [][]api.ID{s.IDs(), s.Begins(oid.Prefix{})}, names
}

func TestAnswersAreNew(t *testing.T) {
	for k, m := range []table{loose(things...), packed(1, 0, things...), packed(1, 8, things...)} {
		m = m.with(table{"refs": lines(manyRefs(3)...), "graph": "g"})
		s := load(t, m)
		if k > 0 {
			s.Repack(8)
			m = tableOf(s)
		}
		turns := s.Turns()
		kept, keptIDs, keptRefs := answers(s)
		again, againIDs, againRefs := answers(s)
		for _, b := range again {
			clear(b[:cap(b)])
		}
		for _, l := range againIDs {
			clear(l[:cap(l)])
		}
		clear(againRefs[:cap(againRefs)])
		holds(t, "answers that were changed", s, m, turns)
		now, nowIDs, nowRefs := answers(s)
		if !slices.EqualFunc(kept, now, bytes.Equal) || !slices.EqualFunc(keptIDs, nowIDs, slices.Equal) || !slices.Equal(keptRefs, nowRefs) {
			t.Error("answers share memory")
		}
	}
}

func TestStoresHaveNothingInCommon(t *testing.T) {
	m := loose(things...).with(table{"graph": "g"})
	one := load(t, m)
	other, _ := store.Load(one.Files())
	third, _ := store.Load(one.Files())
	other.Set("graph", []byte("other"))
	other.Drop(looseName(things[0].id()))
	other.SetRef("a", api.ID{1})
	if n, e := other.Repack(8); n != len(things)-1 || e != api.OK {
		t.Error(n, e)
	}
	holds(t, "one", one, m, 0)
	holds(t, "the third", third, m, 0)
	one.Put(api.Blob, []byte("one"))
	holds(t, "the third again", third, m, 0)
}
