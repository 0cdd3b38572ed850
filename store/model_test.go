package store_test

import (
	"crypto/sha256"
	"encoding/hex"
	"maps"
	"math/rand"
	"slices"
	"strconv"
	"strings"
	"testing"

	"sleuth/api"
	"sleuth/index"
	"sleuth/object"
	"sleuth/pack"
	"sleuth/refs"
	"sleuth/store"
)

// P13.1 to P13.5, and P13.7: a store against the chapter's words, step by step

// packs are the packs of a table whose indexes count, by the words of the chapter.
func (m table) packs() ([]*index.Index, []string) {
	var l []*index.Index
	var packs []string
	for n := 1; n <= 999; n++ {
		b, has := m["index/"+strconv.Itoa(n)]
		p, hasPack := m["pack/"+strconv.Itoa(n)]
		if !has || !hasPack || len(p) < 44 {
			continue
		}
		if x, e := index.Open([]byte(b)); e == api.OK && x.Of() == trailer(p) {
			l, packs = append(l, x), append(packs, p)
		}
	}
	return l, packs
}

// get is what Get tells, by the words of the chapter.
func (m table) get(id api.ID) (int, string, api.Errno) {
	want := api.ErrMissing
	if b, has := m[looseName(id)]; has {
		kind, body, e := object.Split([]byte(b))
		if e == api.OK && sha256.Sum256([]byte(b)) == id {
			return kind, string(body), api.OK
		}
		want = api.ErrCorrupt
	}
	indexes, packs := m.packs()
	for k, x := range indexes {
		p, has := x.Find(id)
		if !has {
			continue
		}
		kind, body, e := pack.Read([]byte(packs[k]), p.At)
		if e == api.OK && object.Check(kind, body) == api.OK && (thing{kind, string(body)}).id() == id {
			return kind, string(body), api.OK
		}
		want = api.ErrCorrupt
	}
	return 0, "", want
}

// ids is what IDs tells, likewise.
func (m table) ids() []api.ID {
	var l []api.ID
	for name := range m {
		if s, has := strings.CutPrefix(name, "loose/"); has {
			id, _ := hex.DecodeString(s)
			l = append(l, api.ID(id))
		}
	}
	indexes, _ := m.packs()
	for _, x := range indexes {
		for k := range x.Len() {
			l = append(l, x.At(k).ID)
		}
	}
	return rising(l)
}

// repack is what Repack makes of a table, how many objects there are, and its error.
func (m table) repack(chain int) (table, int, api.Errno) {
	if chain < 0 || chain > 8 {
		return m, 0, api.ErrArg
	}
	var l []thing
	for _, id := range m.ids() {
		kind, body, e := m.get(id)
		if e != api.OK {
			return m, 0, e
		}
		l = append(l, thing{kind, body})
	}
	if highest(m) == 999 {
		return m, 0, api.ErrFull
	}
	next := table{}
	for _, name := range []string{"refs", "graph", "cache"} {
		if b, has := m[name]; has {
			next[name] = b
		}
	}
	return next.with(packed(highest(m)+1, chain, sorted(l)...)), len(l), api.OK
}

// play does steps with a store, and with a table by the words of the chapter, and asks whether both are one.
type play struct {
	t     *testing.T
	r     *rand.Rand
	s     *store.Store
	m     table
	turns int
	told  map[string]int
	names []string
	some  []table
}

// newPlay begins with a store without files.
func newPlay(t *testing.T, seed int64) *play {
	p := &play{t: t, r: rand.New(rand.NewSource(seed)), s: store.New(), m: table{}, told: map[string]int{}}
	for _, x := range things {
		p.names = append(p.names, looseName(x.id()))
	}
	p.names = append(p.names, "loose/"+noughts, "refs", "graph", "cache", "pack/1", "pack/2", "index/1", "index/2", "pack/10", "index/10")
	p.some = []table{packed(1, 8, things[:8]...), packed(1, 0, things[6:]...), packed(2, 8, things...), packed(10, 4, things[3:9]...), wrongPacked(2, things[:3]...), wrongPacked(1, things[5], things[9])}
	return p
}

// tell counts what a call told, and asks whether it was that.
func (p *play) tell(what string, e, want api.Errno) {
	p.t.Helper()
	p.told[what+" "+strconv.Itoa(int(want))]++
	if e != want {
		p.t.Fatalf("%s: %v, want %v", what, e, want)
	}
}

// set does what Set does.
func (p *play) set(name, b string) {
	want := api.OK
	if name == "x" || name == "pack/01" {
		want = api.ErrName
	} else {
		p.m[name] = b
		p.turns++
	}
	p.tell("set", p.s.Set(name, []byte(b)), want)
}

// thing is any of them.
func (p *play) thing() thing { return things[p.r.Intn(len(things))] }

// put does what Put does.
func (p *play) put(x thing) {
	_, _, before := p.m.get(x.id())
	_, e := p.s.Put(x.kind, []byte(x.body))
	p.tell("put", e, api.OK)
	if before != api.OK {
		p.told["put of "+strconv.Itoa(int(before))]++
		p.m[looseName(x.id())] = x.laid()
		p.turns++
	}
}

// repack does what Repack does.
func (p *play) repack(chain int) {
	next, n, want := p.m.repack(chain)
	got, e := p.s.Repack(chain)
	p.tell("repack", e, want)
	if got != n {
		p.t.Fatalf("repack: %d objects, want %d", got, n)
	}
	p.m = next
	if want == api.OK {
		p.turns++
	}
}

// turnRef does what SetRef and DropRef do.
func (p *play) turnRef(name string, isSet bool) {
	l, want := refs.Get([]byte(p.m["refs"]))
	what, e := "drop a name", api.OK
	if isSet {
		what, e = "set a name", p.s.SetRef(name, api.ID{7})
	} else {
		e = p.s.DropRef(name)
	}
	if want == api.OK && isSet {
		l, want = refs.Set(l, name, api.ID{7})
	} else if want == api.OK {
		l, want = refs.Drop(l, name)
	}
	p.tell(what, e, want)
	if want == api.OK {
		p.m["refs"] = lines(l...)
		p.turns++
	}
}

// spoil turns a byte of any file, or cuts it off.
func (p *play) spoil() {
	names := slices.Sorted(maps.Keys(p.m))
	if len(names) == 0 {
		return
	}
	name := names[p.r.Intn(len(names))]
	b := []byte(p.m[name])
	switch {
	case len(b) == 0:
		b = []byte{'x'}
	case p.r.Intn(8) == 0:
		b = b[:p.r.Intn(len(b))]
	default:
		b[p.r.Intn(len(b))] ^= 1 << p.r.Intn(8)
	}
	p.set(name, string(b))
}

// step does one.
func (p *play) step() {
	name := p.names[p.r.Intn(len(p.names))]
	switch p.r.Intn(17) {
	case 0, 1, 2, 3:
		p.put(p.thing())
	case 4:
		p.spoil()
	case 5:
		p.set(name, p.thing().laid())
	case 6, 7:
		for name, b := range p.some[p.r.Intn(len(p.some))] {
			p.set(name, b)
		}
	case 8, 9:
		_, has := p.m[name]
		if p.s.Drop(name) != has {
			p.t.Fatalf("drop: %s was there: %v", name, has)
		}
		if has {
			delete(p.m, name)
			p.turns++
		}
	case 10, 11:
		p.repack(p.r.Intn(11) - 1)
	case 12:
		p.turnRef([]string{"a", "heads/a", "a b"}[p.r.Intn(3)], true)
	case 13:
		p.turnRef([]string{"a", "heads/a", "a b"}[p.r.Intn(3)], false)
	case 14:
		p.set("refs", lines(ref("a", 1), ref("heads/a", 2)))
	case 15:
		p.set([]string{"pack/01", "x"}[p.r.Intn(2)], "none")
	case 16:
		p.mend()
	}
}

// mend puts all objects whose bytes are others.
func (p *play) mend() {
	for _, x := range things {
		if _, _, e := p.m.get(x.id()); e == api.ErrCorrupt {
			p.put(x)
		}
	}
	if _, has := p.m["loose/"+noughts]; has {
		p.s.Drop("loose/" + noughts)
		delete(p.m, "loose/"+noughts)
		p.turns++
	}
}

// asks holds a store's answers against the table's.
func (p *play) asks(what string, s *store.Store, turns int) {
	p.t.Helper()
	holds(p.t, what, s, p.m, turns)
	if l := s.IDs(); !slices.Equal(l, p.m.ids()) {
		p.t.Errorf("%s: ids %v, want %v", what, l, p.m.ids())
	}
	for _, id := range append(idsOf(things...), api.ID{}, api.ID{1}) {
		kind, body, e := s.Get(id)
		wantKind, wantBody, want := p.m.get(id)
		p.told["get "+strconv.Itoa(int(want))]++
		if kind != wantKind || string(body) != wantBody || e != want {
			p.t.Errorf("%s: %d, %s, %v, want %d, %s, %v", what, kind, brief(string(body)), e, wantKind, brief(wantBody), want)
		}
		if e == api.OK && (thing{kind, string(body)}).id() != id {
			p.t.Errorf("%s: what is told of %s has another id", what, digits(id))
		}
	}
	l, e := s.Refs()
	want, wantE := refs.Get([]byte(p.m["refs"]))
	if !slices.Equal(l, want) || e != wantE {
		p.t.Errorf("%s: refs %v, %v, want %v, %v", what, l, e, want, wantE)
	}
}

func TestAgainstModel(t *testing.T) {
	told := map[string]int{}
	for seed := range int64(12) {
		p := newPlay(t, 137+seed)
		p.told = told
		for k := range 120 {
			p.step()
			p.asks("step "+strconv.Itoa(k), p.s, p.turns)
			if k%10 == 9 {
				other := load(t, tableOf(p.s))
				p.asks("loaded anew, step "+strconv.Itoa(k), other, 0)
			}
			if t.Failed() {
				t.FailNow()
			}
		}
	}
	for _, what := range []string{"set 0", "set 15", "put 0", "put of 30", "put of 31", "repack 0", "repack 2", "repack 31", "set a name 0", "set a name 15", "drop a name 0", "drop a name 35", "get 0", "get 30", "get 31"} {
		if told[what] < 10 {
			t.Errorf("%s was told %d times alone", what, told[what])
		}
	}
}
