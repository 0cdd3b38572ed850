package index_test

import (
	"bytes"
	"crypto/sha256"
	"encoding/binary"
	"math"
	"math/rand"
	"slices"
	"strconv"
	"strings"
	"testing"

	"sleuth/api"
	"sleuth/index"
	"sleuth/oid"
	"sleuth/pack"
)

// four is a number as four bytes.
func four(n uint32) string { return string(binary.BigEndian.AppendUint32(nil, n)) }

// closed is an index of all that stands ahead of its sum.
func closed(s string) string {
	sum := sha256.Sum256([]byte(s))
	return s + string(sum[:])
}

// resummed is an index whose sum is laid anew.
func resummed(b string) string { return closed(b[:len(b)-32]) }

// parts are what an index is laid of.
type parts struct {
	word      string
	version   uint32
	fan       []uint32
	ids       []api.ID
	sums, ats []uint32
	of        api.ID
}

// partsOf are those of places, in the order in which they come.
func partsOf(l []pack.Place, of api.ID) parts {
	p := parts{word: "INDX", version: 1, of: of}
	for k := range 256 {
		n := uint32(0)
		for _, x := range l {
			if int(x.ID[0]) <= k {
				n++
			}
		}
		p.fan = append(p.fan, n)
	}
	for _, x := range l {
		p.ids = append(p.ids, x.ID)
		p.sums = append(p.sums, x.Sum)
		p.ats = append(p.ats, uint32(x.At))
	}
	return p
}

// bytes is the index of parts.
func (p parts) bytes() string {
	var s strings.Builder
	s.WriteString(p.word + four(p.version))
	for _, n := range p.fan {
		s.WriteString(four(n))
	}
	for _, id := range p.ids {
		s.WriteString(string(id[:]))
	}
	for _, n := range p.sums {
		s.WriteString(four(n))
	}
	for _, n := range p.ats {
		s.WriteString(four(n))
	}
	return closed(s.String() + string(p.of[:]))
}

// risen are places in the order of their ids.
func risen(l []pack.Place) []pack.Place {
	r := slices.Clone(l)
	slices.SortStableFunc(r, func(a, b pack.Place) int { return bytes.Compare(a.ID[:], b.ID[:]) })
	return r
}

// makeModel is Make by the chapter's words.
func makeModel(l []pack.Place, of api.ID) (string, api.Errno) {
	if len(l) > 600 {
		return "", api.ErrFull
	}
	for k, x := range l {
		for _, y := range l[:k] {
			if x.ID == y.ID {
				return "", api.ErrTwice
			}
		}
	}
	for _, x := range l {
		if x.At < 0 || x.At > 1<<20 {
			return "", api.ErrArg
		}
	}
	return partsOf(risen(l), of).bytes(), api.OK
}

// number is the number in the four bytes from a place on.
func number(b string, at int) uint32 { return binary.BigEndian.Uint32([]byte(b[at : at+4])) }

// openModel is Open by the chapter's words: the places, and the trailer.
func openModel(b string) ([]pack.Place, api.ID, api.Errno) {
	if len(b) < 1096 {
		return nil, api.ID{}, api.ErrEnd
	}
	if !strings.HasPrefix(b, "INDX\x00\x00\x00\x01") {
		return nil, api.ID{}, api.ErrForm
	}
	most := number(b, 8+4*255)
	if most > 600 {
		return nil, api.ID{}, api.ErrFull
	}
	n := int(most)
	if len(b) < 1096+40*n {
		return nil, api.ID{}, api.ErrEnd
	}
	if len(b) > 1096+40*n {
		return nil, api.ID{}, api.ErrRest
	}
	if resummed(b) != b {
		return nil, api.ID{}, api.ErrSum
	}
	var l []pack.Place
	for k := range n {
		l = append(l, pack.Place{
			ID:  api.ID([]byte(b[1032+32*k:][:32])),
			Sum: number(b, 1032+32*n+4*k),
			At:  int(number(b, 1032+36*n+4*k)),
		})
	}
	for k := 1; k < n; k++ {
		if bytes.Compare(l[k-1].ID[:], l[k].ID[:]) >= 0 {
			return nil, api.ID{}, api.ErrOrder
		}
	}
	for k, want := range partsOf(l, api.ID{}).fan {
		if number(b, 8+4*k) != want {
			return nil, api.ID{}, api.ErrOrder
		}
	}
	for _, x := range l {
		if x.At > 1<<20 {
			return nil, api.ID{}, api.ErrArg
		}
	}
	return l, api.ID([]byte(b[len(b)-64 : len(b)-32])), api.OK
}

// placesOf are all places of an index, one by one.
func placesOf(x *index.Index) []pack.Place {
	var l []pack.Place
	for k := range x.Len() {
		l = append(l, x.At(k))
	}
	return l
}

// opensAsModel holds Open against the model, and against Make, and tells what it answers.
func opensAsModel(t *testing.T, what, b string) api.Errno {
	t.Helper()
	l, of, want := openModel(b)
	x, e := index.Open([]byte(b))
	if e != want || (x == nil) != (e != api.OK) {
		t.Fatalf("%s: %v, %v, want %v", what, x, e, want)
	}
	if e != api.OK {
		return e
	}
	if x.Len() != len(l) || !slices.Equal(placesOf(x), l) || x.Of() != of {
		t.Fatalf("%s: %v, %v, want %v, %v", what, placesOf(x), x.Of(), l, of)
	}
	if c, e := index.Make(l, of); string(c) != b || e != api.OK {
		t.Fatalf("%s: Make of it is another one, %v", what, e)
	}
	return e
}

// opened is an index that Open must take.
func opened(t *testing.T, b string) *index.Index {
	t.Helper()
	x, e := index.Open([]byte(b))
	if e != api.OK {
		t.Fatal(e)
	}
	return x
}

// made is the index of places that Make must take.
func made(t *testing.T, l []pack.Place, of api.ID) string {
	t.Helper()
	b, e := index.Make(l, of)
	if e != api.OK {
		t.Fatal(e)
	}
	return string(b)
}

// three are places that do not rise.
func three() []pack.Place {
	return []pack.Place{
		{ID: api.ID{9, 31: 7}, At: 1<<20 - 1, Sum: 0x01020304},
		{ID: api.ID{1, 2}, At: 0x010203, Sum: math.MaxUint32},
		{ID: api.ID{1, 3}, At: 12},
	}
}

// numbered are n places that rise.
func numbered(n int) []pack.Place {
	var l []pack.Place
	for k := range n {
		l = append(l, pack.Place{ID: api.ID{byte(k >> 2), byte(k)}, At: 12 + k, Sum: uint32(k * k)})
	}
	return l
}

// anyID is an id. Many of them are like one another.
func anyID(r *rand.Rand) api.ID {
	var id api.ID
	if r.Intn(2) == 0 {
		r.Read(id[:])
		return id
	}
	for _, k := range []int{0, 1, 15, 31} {
		id[k] = []byte{0, 1, 127, 128, 254, 255}[r.Intn(6)]
	}
	return id
}

// anyPlaces are n places of different ids, in any order.
func anyPlaces(r *rand.Rand, n int) []pack.Place {
	seen := map[api.ID]bool{}
	var l []pack.Place
	for len(l) < n {
		id := anyID(r)
		if !seen[id] {
			l = append(l, pack.Place{ID: id, At: r.Intn(1<<20 + 1), Sum: r.Uint32()})
		}
		seen[id] = true
	}
	return l
}

// P11.1

func TestMakeRefuses(t *testing.T) {
	at := func(n int) []pack.Place { return []pack.Place{{ID: api.ID{1}, At: n}} }
	twice := []pack.Place{{ID: api.ID{1}, At: 12}, {ID: api.ID{2}, At: 20}, {ID: api.ID{1}, At: 30, Sum: 5}}
	for _, x := range []struct {
		what string
		l    []pack.Place
		want api.Errno
	}{
		{"601", numbered(601), api.ErrFull},
		{"many more", make([]pack.Place, 70000), api.ErrFull},
		{"601, and one twice", append(numbered(600), numbered(1)...), api.ErrFull},
		{"601, and no place", append(numbered(600), pack.Place{ID: api.ID{200}, At: -1}), api.ErrFull},
		{"one twice", twice, api.ErrTwice},
		{"one twice, side by side", []pack.Place{twice[1], twice[0], twice[2]}, api.ErrTwice},
		{"all of it twice", []pack.Place{twice[0], twice[0]}, api.ErrTwice},
		{"none twice", make([]pack.Place, 2), api.ErrTwice},
		{"the first of 600 at the end", append(numbered(599), numbered(1)...), api.ErrTwice},
		{"one twice, and no place ahead", append(at(-1), twice[1], twice[2]), api.ErrTwice},
		{"one twice, and no place behind", append(slices.Clone(twice), pack.Place{ID: api.ID{3}, At: 1<<20 + 1}), api.ErrTwice},
		{"a place below 0", at(-1), api.ErrArg},
		{"the least place", at(math.MinInt), api.ErrArg},
		{"a place above 2^20", at(1<<20 + 1), api.ErrArg},
		{"the greatest place", at(math.MaxInt), api.ErrArg},
		{"a place that would be 12 in 32 bits", at(1<<32 + 12), api.ErrArg},
		{"a place below 0 that would be 12 in 32 bits", at(-1<<32 + 12), api.ErrArg},
		{"the first of 600", append([]pack.Place{{ID: api.ID{200}, At: -1}}, numbered(599)...), api.ErrArg},
		{"the last of 600", append(numbered(599), pack.Place{ID: api.ID{200}, At: 1<<20 + 1}), api.ErrArg},
		{"one in the midst", []pack.Place{{ID: api.ID{1}}, {ID: api.ID{3}, At: -1}, {ID: api.ID{2}}}, api.ErrArg},
	} {
		if b, e := index.Make(x.l, api.ID{7}); len(b) != 0 || e != x.want {
			t.Errorf("%s: %d bytes, %v, want %v", x.what, len(b), e, x.want)
		}
		if b, e := makeModel(x.l[:min(len(x.l), 601)], api.ID{7}); b != "" || e != x.want {
			t.Errorf("%s: the model says %v", x.what, e)
		}
	}
}

func TestMakeOfKnown(t *testing.T) {
	of := api.ID{0xab, 31: 0xcd}
	noughts := strings.Repeat("\x00", 1024)
	empty := "INDX\x00\x00\x00\x01" + noughts
	if b := made(t, nil, api.ID{}); b != closed(empty+noughts[:32]) || len(b) != 1096 {
		t.Errorf("of nothing: %x", b)
	}
	if b := made(t, []pack.Place{}, of); b != closed(empty+string(of[:])) {
		t.Errorf("of an empty list: %x", b)
	}
	want := "INDX\x00\x00\x00\x01" +
		four(0) + strings.Repeat(four(2), 8) + strings.Repeat(four(3), 247) +
		"\x01\x02" + noughts[:30] + "\x01\x03" + noughts[:30] + "\x09" + noughts[:30] + "\x07" +
		"\xff\xff\xff\xff" + "\x00\x00\x00\x00" + "\x01\x02\x03\x04" +
		"\x00\x01\x02\x03" + "\x00\x00\x00\x0c" + "\x00\x0f\xff\xff" +
		string(of[:])
	if b := made(t, three(), of); b != closed(want) || len(b) != 1096+3*40 {
		t.Errorf("of three: %x", b)
	}
}

// TestMakeOfEdges: as many places as there may be, and the least and the greatest one.
func TestMakeOfEdges(t *testing.T) {
	all := numbered(600)
	slices.Reverse(all)
	for what, l := range map[string][]pack.Place{
		"600":                 all,
		"599":                 all[1:],
		"the least place":     {{ID: api.ID{1}}},
		"the greatest place":  {{ID: api.ID{1}, At: 1 << 20}},
		"two at one place":    {{ID: api.ID{2}, At: 12}, {ID: api.ID{1}, At: 12}},
		"the id of noughts":   {{At: 12}},
		"the greatest id":     {{ID: api.ID([]byte(strings.Repeat("\xff", 32))), At: 12}},
		"all of a first byte": {{ID: api.ID{255, 2}}, {ID: api.ID{255, 1}}, {ID: api.ID{255}}},
	} {
		want, e := makeModel(l, api.ID{3})
		if b := made(t, l, api.ID{3}); b != want || e != api.OK {
			t.Errorf("%s: %d bytes, the model's %d", what, len(b), len(want))
		}
		if e := opensAsModel(t, what, want); e != api.OK {
			t.Errorf("%s: %v", what, e)
		}
	}
}

func TestMakeOfAny(t *testing.T) {
	r := rand.New(rand.NewSource(1))
	seen := map[api.Errno]int{}
	for range 3000 {
		l := anyPlaces(r, r.Intn(12))
		of := anyID(r)
		if len(l) > 0 && r.Intn(3) == 0 {
			l[r.Intn(len(l))].At = []int{-1, 0, 1 << 20, 1<<20 + 1}[r.Intn(4)]
		}
		if len(l) > 0 && r.Intn(5) == 0 {
			l = append(l, l[r.Intn(len(l))])
		}
		want, wantE := makeModel(l, of)
		b, e := index.Make(l, of)
		if string(b) != want || e != wantE {
			t.Fatalf("%v: %x, %v, want %x, %v", l, b, e, want, wantE)
		}
		seen[e]++
	}
	if seen[api.OK] < 100 || seen[api.ErrTwice] < 100 || seen[api.ErrArg] < 100 {
		t.Error(seen)
	}
}

// TestMakeInEachOrder: in which order places come changes nothing.
func TestMakeInEachOrder(t *testing.T) {
	r := rand.New(rand.NewSource(2))
	for _, n := range []int{2, 3, 40, 600} {
		l := anyPlaces(r, n)
		want := made(t, l, api.ID{})
		for range 5 {
			r.Shuffle(n, func(i, j int) { l[i], l[j] = l[j], l[i] })
			if made(t, l, api.ID{}) != want {
				t.Errorf("%d", n)
			}
		}
	}
}

// P11.2

// size is a text cut off, or made longer by bytes of 0, with a right sum.
func size(b string, n int) string {
	s := b[:len(b)-32] + strings.Repeat("\x00", 60000)
	return closed(s[:n-32])
}

func TestOpenRefuses(t *testing.T) {
	right := partsOf(risen(three()), api.ID{8})
	with := func(change func(p *parts)) string {
		p := right
		p.fan, p.ids = slices.Clone(p.fan), slices.Clone(p.ids)
		p.sums, p.ats = slices.Clone(p.sums), slices.Clone(p.ats)
		change(&p)
		return p.bytes()
	}
	b := right.bytes()
	last := func(n uint32) func(*parts) { return func(p *parts) { p.fan[255] = n } }
	unsummed := func(b string) string { return b[:len(b)-1] + string([]byte{b[len(b)-1] ^ 1}) }
	swap := func(p *parts) { p.ids[0], p.ids[1] = p.ids[1], p.ids[0] }
	for _, x := range []struct {
		what, b string
		want    api.Errno
	}{
		{"right", b, api.OK},
		{"nothing", "", api.ErrEnd},
		{"a byte", "I", api.ErrEnd},
		{"1095 bytes", size(b, 1095), api.ErrEnd},
		{"1095 bytes of none", strings.Repeat("x", 1095), api.ErrEnd},
		{"1096 bytes of none", strings.Repeat("x", 1096), api.ErrForm},
		{"another word", with(func(p *parts) { p.word = "INDY" }), api.ErrForm},
		{"a pack's word", with(func(p *parts) { p.word = "PACK" }), api.ErrForm},
		{"a word in small letters", with(func(p *parts) { p.word = "indx" }), api.ErrForm},
		{"the version 0", with(func(p *parts) { p.version = 0 }), api.ErrForm},
		{"the version 2", with(func(p *parts) { p.version = 2 }), api.ErrForm},
		{"the version 2^24", with(func(p *parts) { p.version = 1 << 24 }), api.ErrForm},
		{"the version 257", with(func(p *parts) { p.version = 257 }), api.ErrForm},
		{"another word, and 601", with(func(p *parts) { p.word = "INDY"; p.fan[255] = 601 }), api.ErrForm},
		{"the version 2, and another sum", unsummed(with(func(p *parts) { p.version = 2 })), api.ErrForm},
		{"the version 2, cut off", size(with(func(p *parts) { p.version = 2 }), 1100), api.ErrForm},
		{"601", with(last(601)), api.ErrFull},
		{"601, and as many bytes", partsOf(numbered(601), api.ID{}).bytes(), api.ErrFull},
		{"601, and another sum", unsummed(with(last(601))), api.ErrFull},
		{"as many as there can be", with(last(math.MaxUint32)), api.ErrFull},
		{"2^31", with(last(1 << 31)), api.ErrFull},
		{"as many as would have no bytes in 32 bits", with(last(1 << 29)), api.ErrFull},
		{"3, of 1096 bytes", size(b, 1096), api.ErrEnd},
		{"a byte fewer", size(b, len(b)-1), api.ErrEnd},
		{"a byte fewer, and another sum", b[:len(b)-1], api.ErrEnd},
		{"fewer by a row", size(b, len(b)-40), api.ErrEnd},
		{"600, of 3", with(last(600)), api.ErrEnd},
		{"600, of 3, and another sum", unsummed(with(last(600))), api.ErrEnd},
		{"4, of 3", with(last(4)), api.ErrEnd},
		{"a byte more", size(b, len(b)+1), api.ErrRest},
		{"a byte more, and another sum", b + "\x00", api.ErrRest},
		{"more by a row", size(b, len(b)+40), api.ErrRest},
		{"many more", size(b, 60000), api.ErrRest},
		{"2, of 3", with(last(2)), api.ErrRest},
		{"none, of 3", with(last(0)), api.ErrRest},
		{"2, of 3, and another sum", unsummed(with(last(2))), api.ErrRest},
		{"another sum", unsummed(b), api.ErrSum},
		{"a sum of noughts", b[:len(b)-32] + strings.Repeat("\x00", 32), api.ErrSum},
		{"another sum, and no order", unsummed(with(swap)), api.ErrSum},
		{"another sum, and no place", unsummed(with(func(p *parts) { p.ats[0] = 1<<20 + 1 })), api.ErrSum},
		{"another trailer, and the sum as it was", b[:len(b)-33] + "x" + b[len(b)-32:], api.ErrSum},
		{"ids that fall", with(swap), api.ErrOrder},
		{"ids that fall at the end", with(func(p *parts) { p.ids[1], p.ids[2] = p.ids[2], p.ids[1] }), api.ErrOrder},
		{"ids that fall in the last byte", partsOf([]pack.Place{{ID: api.ID{1, 31: 2}}, {ID: api.ID{1, 31: 1}}}, api.ID{}).bytes(), api.ErrOrder},
		{"an id twice", with(func(p *parts) { p.ids[1] = p.ids[0] }), api.ErrOrder},
		{"the last id twice", partsOf([]pack.Place{{ID: api.ID{1}}, {ID: api.ID{2}}, {ID: api.ID{2}}}, api.ID{}).bytes(), api.ErrOrder},
		{"a fan-out of more", with(func(p *parts) { p.fan[0] = 1 }), api.ErrOrder},
		{"a fan-out of fewer", with(func(p *parts) { p.fan[1] = 1 }), api.ErrOrder},
		{"a fan-out of more ahead of the last", with(func(p *parts) { p.fan[254] = 4 }), api.ErrOrder},
		{"a fan-out of as many as there can be", with(func(p *parts) { p.fan[4] = math.MaxUint32 }), api.ErrOrder},
		{"a fan-out of noughts, but the last", with(func(p *parts) { clear(p.fan[:255]) }), api.ErrOrder},
		{"a fan-out of each byte by itself", with(func(p *parts) { clear(p.fan); p.fan[1], p.fan[9], p.fan[255] = 2, 1, 3 }), api.ErrOrder},
		{"a fan-out of those below", with(func(p *parts) { copy(p.fan[1:], right.fan); p.fan[0] = 0 }), api.ErrOrder},
		{"another first byte", with(func(p *parts) { p.ids[2][0] = 10 }), api.ErrOrder},
		{"no order, and no place", with(func(p *parts) { swap(p); p.ats[0] = 1<<20 + 1 }), api.ErrOrder},
		{"another fan-out, and no place", with(func(p *parts) { p.fan[0] = 1; p.ats[0] = 1<<20 + 1 }), api.ErrOrder},
		{"the greatest place", with(func(p *parts) { p.ats[0] = 1 << 20 }), api.OK},
		{"a place above it", with(func(p *parts) { p.ats[0] = 1<<20 + 1 }), api.ErrArg},
		{"a place above it, the last one", with(func(p *parts) { p.ats[2] = 1<<20 + 1 }), api.ErrArg},
		{"a place that would be below 0 in 32 bits", with(func(p *parts) { p.ats[1] = math.MaxUint32 }), api.ErrArg},
		{"a place of 2^31", with(func(p *parts) { p.ats[1] = 1 << 31 }), api.ErrArg},
		{"the greatest sums", with(func(p *parts) { p.sums = []uint32{math.MaxUint32, math.MaxUint32, math.MaxUint32} }), api.OK},
		{"a trailer of noughts", with(func(p *parts) { p.of = api.ID{} }), api.OK},
		{"all of one id, and that is of noughts", partsOf(make([]pack.Place, 1), api.ID{}).bytes(), api.OK},
		{"600 of one id", partsOf(make([]pack.Place, 600), api.ID{}).bytes(), api.ErrOrder},
		{"600", partsOf(numbered(600), api.ID{}).bytes(), api.OK},
	} {
		if e := opensAsModel(t, x.what, x.b); e != x.want {
			t.Errorf("%s: %v, want %v", x.what, e, x.want)
		}
	}
}

// TestOpenOfSpoilt: each cut, and each byte in some other ways, with the sum as it was, and with that of the bytes.
func TestOpenOfSpoilt(t *testing.T) {
	for _, l := range [][]pack.Place{nil, three(), numbered(5)} {
		b := made(t, l, api.ID{8})
		for k := range len(b) {
			opensAsModel(t, "cut at "+strconv.Itoa(k), b[:k])
			if k >= 32 {
				opensAsModel(t, "cut at "+strconv.Itoa(k), size(b, k))
			}
		}
		for k := range len(b) {
			// Ahead of the sum the word, the version, and how many there are, are asked.
			mayBeOther := k < 8 || 8+4*255 <= k && k < 8+4*256
			c := []byte(b)
			for _, turn := range []byte{1, 2, 4, 8, 16, 32, 64, 128, 255} {
				c[k] = b[k] ^ turn
				what := "byte " + strconv.Itoa(k)
				if e := opensAsModel(t, what, string(c)); e != api.ErrSum && !mayBeOther {
					t.Fatalf("%s: %v", what, e)
				}
				opensAsModel(t, what, resummed(string(c)))
			}
		}
	}
}

// TestOpenOfAny: indexes that are wrong in one way or another.
func TestOpenOfAny(t *testing.T) {
	r := rand.New(rand.NewSource(3))
	seen := map[api.Errno]int{}
	for range 6000 {
		l := anyPlaces(r, r.Intn(8))
		if r.Intn(4) > 0 {
			l = risen(l)
		}
		p := partsOf(l, anyID(r))
		if r.Intn(8) == 0 {
			p.fan[r.Intn(256)]++
		}
		if r.Intn(8) == 0 {
			p.fan[255] = uint32(r.Intn(1200))
		}
		if len(l) > 0 && r.Intn(8) == 0 {
			p.ats[r.Intn(len(l))] += 1<<20 + uint32(r.Intn(2))
		}
		if len(l) > 1 && r.Intn(8) == 0 {
			p.ids[r.Intn(len(l))] = p.ids[0]
		}
		b := p.bytes()
		if r.Intn(8) == 0 {
			b = size(b, len(b)+r.Intn(81)-40)
		}
		if r.Intn(8) == 0 {
			b = b[:len(b)-1] + string([]byte{byte(r.Intn(256))})
		}
		seen[opensAsModel(t, "any", b)]++
	}
	for _, e := range []api.Errno{api.OK, api.ErrEnd, api.ErrRest, api.ErrFull, api.ErrSum, api.ErrOrder, api.ErrArg} {
		if seen[e] < 50 {
			t.Errorf("%v: %d of them", e, seen[e])
		}
	}
}

// P11.3

func TestAt(t *testing.T) {
	for _, n := range []int{0, 1, 3, 600} {
		l := numbered(n)
		x := opened(t, made(t, l, api.ID{}))
		if x.Len() != n {
			t.Errorf("%d: Len %d", n, x.Len())
		}
		for k, p := range l {
			if x.At(k) != p {
				t.Errorf("%d: %v, want %v", k, x.At(k), p)
			}
		}
		for _, k := range []int{-1, n, n + 1, -n - 1, 256, 1032, math.MinInt, math.MaxInt, 1 << 32, -1 << 32} {
			if p := x.At(k); (k < 0 || k >= n) && p != (pack.Place{}) {
				t.Errorf("%d of %d: %v", k, n, p)
			}
		}
	}
}

func TestOf(t *testing.T) {
	for _, of := range []api.ID{{}, {1}, {31: 1}, sha256.Sum256(nil)} {
		for _, l := range [][]pack.Place{nil, three()} {
			if x := opened(t, made(t, l, of)); x.Of() != of {
				t.Errorf("%v, want %v", x.Of(), of)
			}
		}
	}
}

// beside are ids that differ from one in a bit, or are the next above or below it.
func beside(id api.ID) []api.ID {
	var l []api.ID
	for k := range 256 {
		c := id
		c[k/8] ^= 1 << (k % 8)
		l = append(l, c)
	}
	above, below := id, id
	for k := 31; k >= 0; k-- {
		above[k]++
		if above[k] != 0 {
			break
		}
	}
	for k := 31; k >= 0; k-- {
		below[k]--
		if below[k] != 255 {
			break
		}
	}
	return append(l, above, below)
}

// findsAsModel holds Find against a look at each place.
func findsAsModel(t *testing.T, x *index.Index, l []pack.Place, id api.ID) bool {
	t.Helper()
	want := pack.Place{}
	k := slices.IndexFunc(l, func(p pack.Place) bool { return p.ID == id })
	if k >= 0 {
		want = l[k]
	}
	if p, has := x.Find(id); p != want || has != (k >= 0) {
		t.Fatalf("%x: %v, %v, want %v", id, p, has, want)
	}
	return k >= 0
}

func TestFind(t *testing.T) {
	r := rand.New(rand.NewSource(4))
	lists := [][]pack.Place{nil, three(), numbered(600), make([]pack.Place, 1)}
	for _, n := range []int{1, 2, 3, 5, 40, 300, 600} {
		lists = append(lists, anyPlaces(r, n))
	}
	for _, l := range lists {
		x := opened(t, made(t, l, api.ID{}))
		for _, p := range l {
			if !findsAsModel(t, x, l, p.ID) {
				t.Fatal(p)
			}
		}
		for _, p := range l[:min(len(l), 20)] {
			for _, id := range beside(p.ID) {
				findsAsModel(t, x, l, id)
			}
		}
		for k := range 256 {
			low, high := api.ID{byte(k)}, api.ID([]byte(strings.Repeat("\xff", 32)))
			high[0] = byte(k)
			findsAsModel(t, x, l, low)
			findsAsModel(t, x, l, high)
		}
		for range 200 {
			findsAsModel(t, x, l, anyID(r))
		}
	}
}

// TestFindOfOneFirstByte: one id of each first byte, and all of one.
func TestFindOfOneFirstByte(t *testing.T) {
	var each, all []pack.Place
	for k := range 256 {
		each = append(each, pack.Place{ID: api.ID{byte(k), 7}, At: 12 + k})
		all = append(all, pack.Place{ID: api.ID{7, byte(k)}, At: 12 + k})
	}
	for _, l := range [][]pack.Place{each, all, each[:1], each[255:], each[1:255], all[:1], all[255:]} {
		x := opened(t, made(t, l, api.ID{}))
		for k := range 256 {
			for j := range 256 {
				findsAsModel(t, x, l, api.ID{byte(k), byte(j)})
			}
		}
	}
}

// beginsAsModel holds Begins against a look at each id.
func beginsAsModel(t *testing.T, x *index.Index, l []pack.Place, p oid.Prefix) int {
	t.Helper()
	var want []api.ID
	for _, y := range risen(l) {
		if p.Fits(y.ID) {
			want = append(want, y.ID)
		}
	}
	if got := x.Begins(p); !slices.Equal(got, want) {
		t.Fatalf("%v: %v, want %v", p, got, want)
	}
	return len(want)
}

// prefix is that of digits.
func prefix(s string) oid.Prefix {
	p, e := oid.Begin(s)
	if e != api.OK {
		panic(e)
	}
	return p
}

func TestBegins(t *testing.T) {
	r := rand.New(rand.NewSource(5))
	lists := [][]pack.Place{nil, three(), numbered(600)}
	for _, n := range []int{1, 2, 5, 40} {
		lists = append(lists, anyPlaces(r, n))
	}
	for _, l := range lists {
		x := opened(t, made(t, l, api.ID{}))
		if beginsAsModel(t, x, l, oid.Prefix{}) != len(l) {
			t.Error("not all begin with nothing")
		}
		for k := range 256 {
			digits := oid.Hex(api.ID{byte(k)})
			for n := range 4 {
				beginsAsModel(t, x, l, prefix(digits[:n]))
			}
		}
		for _, p := range l[:min(len(l), 10)] {
			for n := range 65 {
				if beginsAsModel(t, x, l, prefix(oid.Hex(p.ID)[:n])) == 0 {
					t.Fatal(p, n)
				}
			}
			for _, id := range beside(p.ID) {
				beginsAsModel(t, x, l, prefix(oid.Hex(id)))
			}
		}
	}
}

// TestBeginsOfNoPrefix: one that is not right fits nothing.
func TestBeginsOfNoPrefix(t *testing.T) {
	x := opened(t, made(t, three(), api.ID{}))
	for _, p := range []oid.Prefix{
		{N: -1}, {N: 65}, {N: math.MinInt}, {N: math.MaxInt}, {N: 1 << 32},
		{ID: api.ID{1}}, {ID: api.ID{1}, N: 1}, {ID: api.ID{1, 2}, N: 3}, {ID: api.ID{9, 31: 7}, N: 63}, {ID: api.ID{1}, N: -1}, {ID: api.ID{1}, N: 65},
	} {
		if l := x.Begins(p); len(l) != 0 {
			t.Errorf("%v: %v", p, l)
		}
	}
	for s, want := range map[string]int{"": 3, "0": 3, "01": 2, "09": 1, "010": 2, "0102": 1, "0101": 0, "1": 0, "f": 0, "08": 0} {
		if l := x.Begins(prefix(s)); len(l) != want {
			t.Errorf("%q: %v, want %d", s, l, want)
		}
	}
}

// P11.4

func TestNoCallMadeIt(t *testing.T) {
	var none *index.Index
	for what, x := range map[string]*index.Index{"nil": none, "zero": {}, "new": new(index.Index)} {
		if x.Len() != 0 || x.Of() != (api.ID{}) {
			t.Errorf("%s: %d, %v", what, x.Len(), x.Of())
		}
		for _, k := range []int{-1, 0, 1, math.MinInt, math.MaxInt} {
			if p := x.At(k); p != (pack.Place{}) {
				t.Errorf("%s: at %d %v", what, k, p)
			}
		}
		for k := range 256 {
			id := api.ID{byte(k)}
			if p, has := x.Find(id); p != (pack.Place{}) || has {
				t.Errorf("%s: %v", what, p)
			}
			if l := x.Begins(prefix(oid.Hex(id)[:2])); len(l) != 0 {
				t.Errorf("%s: %v", what, l)
			}
		}
		for _, p := range []oid.Prefix{{}, {N: -1}, {N: 65}, {ID: api.ID{1}}} {
			if l := x.Begins(p); len(l) != 0 {
				t.Errorf("%s: %v", what, l)
			}
		}
	}
}

// P11.5: that what Open takes is Make of it opensAsModel asks.

func TestOpenOfMake(t *testing.T) {
	r := rand.New(rand.NewSource(6))
	for k := range 700 {
		n := r.Intn(20)
		if k%100 == 0 {
			n = 500 + r.Intn(101)
		}
		l := anyPlaces(r, n)
		of := anyID(r)
		x := opened(t, made(t, l, of))
		if !slices.Equal(placesOf(x), risen(l)) || x.Len() != n || x.Of() != of {
			t.Fatalf("%v, %v, want %v, %v", placesOf(x), x.Of(), risen(l), of)
		}
	}
}

// TestOfAPack: an index has where a pack has each of its objects.
func TestOfAPack(t *testing.T) {
	var items []pack.Item
	for k := range 60 {
		items = append(items, pack.Item{Kind: api.Blob, Body: []byte("the text of number " + strconv.Itoa(k))})
	}
	b, places, e := pack.Write(items, 8)
	if e != api.OK {
		t.Fatal(e)
	}
	of, _ := pack.Trailer(b)
	x := opened(t, made(t, places, of))
	if x.Of() != of || x.Len() != len(items) {
		t.Error(x.Of(), x.Len())
	}
	for k, p := range places {
		found, has := x.Find(p.ID)
		kind, body, e := pack.Read(b, found.At)
		if found != p || !has || kind != api.Blob || !bytes.Equal(body, items[k].Body) || e != api.OK {
			t.Errorf("%d: %v, %v, %d, %q, %v", k, found, has, kind, body, e)
		}
	}
}

// R3, R4: nothing is changed, kept or shared

func TestNothingHandedInIsChanged(t *testing.T) {
	l := append(three(), pack.Place{At: -7})[:3]
	b := []byte(made(t, l, api.ID{8}))
	if spare := l[:4][3]; !slices.Equal(l, three()) || spare != (pack.Place{At: -7}) {
		t.Errorf("%v, %v", l, spare)
	}
	was := string(b)
	b = append(b, "spare room"...)[:len(was)]
	x, _ := index.Open(b)
	x.Find(l[0].ID)
	x.Begins(oid.Prefix{})
	if string(b[:len(was)+10]) != was+"spare room" {
		t.Error("changed")
	}
}

func TestNothingHandedInIsKept(t *testing.T) {
	l := three()
	b, _ := index.Make(l, api.ID{8})
	was := string(b)
	clear(l)
	if string(b) != was {
		t.Error("Make keeps")
	}
	x := opened(t, was)
	b = []byte(was)
	y, _ := index.Open(b)
	for k := range b {
		b[k] = '#'
	}
	if !slices.Equal(placesOf(y), placesOf(x)) || y.Of() != x.Of() || len(y.Begins(prefix("01"))) != 2 {
		t.Errorf("%v, %v", placesOf(y), y.Of())
	}
	findsAsModel(t, y, three(), api.ID{1, 3})
}

func TestAnswersShareNothing(t *testing.T) {
	one, _ := index.Make(three(), api.ID{8})
	two, _ := index.Make(three(), api.ID{8})
	was := string(one)
	clear(one[:cap(one)])
	if string(two) != was {
		t.Error("Make shares")
	}
	x, y := opened(t, was), opened(t, was)
	want := slices.Clone(x.Begins(oid.Prefix{}))
	for _, s := range []string{"", "0", "01", "0102", "09"} {
		l, m := x.Begins(prefix(s)), x.Begins(prefix(s))
		kept := slices.Clone(m)
		clear(l[:cap(l)])
		if !slices.Equal(m, kept) {
			t.Errorf("%q: Begins shares", s)
		}
	}
	if !slices.Equal(x.Begins(oid.Prefix{}), want) || !slices.Equal(placesOf(x), placesOf(y)) {
		t.Errorf("%v", placesOf(x))
	}
	for _, p := range three() {
		findsAsModel(t, x, three(), p.ID)
	}
}
