package sha_test

import (
	"bytes"
	"crypto/sha256"
	"encoding"
	"encoding/binary"
	"encoding/hex"
	"math"
	"math/rand"
	"strings"
	"testing"

	"sleuth/api"
	"sleuth/sha"
)

// P2.1

func TestStart(t *testing.T) {
	want := [8]uint32{
		0x6a09e667, 0xbb67ae85, 0x3c6ef372, 0xa54ff53a,
		0x510e527f, 0x9b05688c, 0x1f83d9ab, 0x5be0cd19,
	}
	if got := sha.Start(); got != want {
		t.Errorf("%x", got)
	}
}

// taken is what the library makes of a state and a block: it reads a state
// from bytes, behind which stand what is left of a block, and a length.
func taken(t *testing.T, state [8]uint32, b []byte) (out [8]uint32) {
	t.Helper()
	raw := []byte("sha\x03")
	for _, x := range state {
		raw = binary.BigEndian.AppendUint32(raw, x)
	}
	raw = append(raw, make([]byte, 64+8)...)
	h := sha256.New()
	if err := h.(encoding.BinaryUnmarshaler).UnmarshalBinary(raw); err != nil {
		t.Fatal(err)
	}
	h.Write(b)
	raw, err := h.(encoding.BinaryMarshaler).MarshalBinary()
	if err != nil {
		t.Fatal(err)
	}
	for i := range out {
		out[i] = binary.BigEndian.Uint32(raw[4+4*i:])
	}
	return out
}

func filled(c byte, n int) []byte { return bytes.Repeat([]byte{c}, n) }

func TestBlock(t *testing.T) {
	r := rand.New(rand.NewSource(2))
	states := [][8]uint32{{}, sha.Start(), {1}, {7: 1}}
	blocks := [][]byte{filled(0, 64), filled(255, 64), filled(128, 64), filled('a', 64)}
	var most [8]uint32
	for i := range most {
		most[i] = math.MaxUint32
	}
	states = append(states, most)
	for range 50 {
		var s [8]uint32
		b := make([]byte, 64)
		for i := range s {
			s[i] = r.Uint32()
		}
		r.Read(b)
		states, blocks = append(states, s), append(blocks, b)
	}
	for _, s := range states {
		for _, b := range blocks {
			got, e := sha.Block(s, b)
			if want := taken(t, s, b); got != want || e != api.OK {
				t.Fatalf("%x %x: %x, %d; want %x", s, b, got, e, want)
			}
		}
	}
}

func TestBlockOfAnotherLength(t *testing.T) {
	for _, n := range []int{0, 1, 32, 55, 56, 63, 65, 127, 128, 192} {
		got, e := sha.Block(sha.Start(), filled('a', n))
		if e != api.ErrArg || got != [8]uint32{} {
			t.Errorf("%d bytes: %x, %d", n, got, e)
		}
	}
	if got, e := sha.Block(sha.Start(), nil); e != api.ErrArg || got != [8]uint32{} {
		t.Errorf("nil: %x, %d", got, e)
	}
}

func TestBlockTurnsNothing(t *testing.T) {
	room := filled('a', 80)
	s := sha.Start()
	first, _ := sha.Block(s, room[:64])
	if !bytes.Equal(room, filled('a', 80)) || s != sha.Start() {
		t.Errorf("became %q, %x", room, s)
	}
	if again, _ := sha.Block(s, room[:64:64]); again != first {
		t.Errorf("%x, then %x", first, again)
	}
}

// padded says what stands behind n bytes, as the chapter says it.
func padded(n uint64) []byte {
	p := []byte{128}
	for (n%64+uint64(len(p))+8)%64 != 0 {
		p = append(p, 0)
	}
	return binary.BigEndian.AppendUint64(p, 8*n)
}

func TestPad(t *testing.T) {
	for n := range uint64(300) {
		for _, from := range []uint64{0, 1<<29 - 150, 1<<32 - 150, 1<<61 - 150, 1<<63 - 150, math.MaxUint64 - 299} {
			if got := sha.Pad(from + n); !bytes.Equal(got, padded(from+n)) {
				t.Fatalf("%d: %x; want %x", from+n, got, padded(from+n))
			}
		}
	}
}

func TestPadByHand(t *testing.T) {
	for _, x := range []struct {
		n       uint64
		noughts int
		bits    string
	}{
		{0, 55, "0000000000000000"},
		{3, 52, "0000000000000018"},
		{54, 1, "00000000000001b0"},
		{55, 0, "00000000000001b8"},
		{56, 63, "00000000000001c0"},
		{63, 56, "00000000000001f8"},
		{64, 55, "0000000000000200"},
		{119, 0, "00000000000003b8"},
		{120, 63, "00000000000003c0"},
		{0x0123456789abcdef, 8, "091a2b3c4d5e6f78"},
		{1<<61 - 1, 56, "fffffffffffffff8"},
		{1 << 61, 55, "0000000000000000"},
		{1<<61 + 1, 54, "0000000000000008"},
		{math.MaxUint64, 56, "fffffffffffffff8"},
	} {
		want := "80" + strings.Repeat("00", x.noughts) + x.bits
		if got := hex.EncodeToString(sha.Pad(x.n)); got != want {
			t.Errorf("%d: %s; want %s", x.n, got, want)
		}
	}
}

func TestPadIsFresh(t *testing.T) {
	p := sha.Pad(3)
	clear(p)
	if got := sha.Pad(3); !bytes.Equal(got, padded(3)) {
		t.Errorf("%x", got)
	}
}

// P2.2

func TestOfKnown(t *testing.T) {
	for _, x := range []struct{ s, want string }{
		{"", "e3b0c44298fc1c149afbf4c8996fb92427ae41e4649b934ca495991b7852b855"},
		{"abc", "ba7816bf8f01cfea414140de5dae2223b00361a396177a9cb410ff61f20015ad"},
		{"abcdbcdecdefdefgefghfghighijhijkijkljklmklmnlmnomnopnopq",
			"248d6a61d20638b8e5c026930c3e6039a33ce45964ff2167f6ecedd419db06c1"},
		{"abcdefghbcdefghicdefghijdefghijkefghijklfghijklmghijklmnhijklmnoijklmnopjklmnopqklmnopqrlmnopqrsmnopqrstnopqrstu",
			"cf5b16a778af8380036ce59e7b0492370b249b11e8f07a51afac45037afee9d1"},
		{strings.Repeat("a", 1000000), "cdc76e5c9914fb9281a1c7e284d73e67f1809a48a497200e046d39ccc7112cd0"},
	} {
		if id := sha.Of([]byte(x.s)); hex.EncodeToString(id[:]) != x.want {
			t.Errorf("%.20s: %x", x.s, id)
		}
	}
}

// some is n bytes of all kinds.
func some(n int) []byte {
	b := make([]byte, n)
	rand.New(rand.NewSource(int64(n))).Read(b)
	return b
}

func TestOfEachLength(t *testing.T) {
	for n := range 520 {
		b := some(n)
		if got, want := sha.Of(b), api.ID(sha256.Sum256(b)); got != want {
			t.Fatalf("%d bytes: %x; want %x", n, got, want)
		}
	}
}

// TestOfByBlocks goes as the chapter says it: from the start block by block
// through the bytes and their Pad.
func TestOfByBlocks(t *testing.T) {
	for _, n := range []int{0, 1, 55, 56, 63, 64, 65, 119, 120, 128, 1000} {
		b := some(n)
		whole := append(bytes.Clone(b), sha.Pad(uint64(n))...)
		state := sha.Start()
		for ; len(whole) > 0; whole = whole[64:] {
			var e api.Errno
			if state, e = sha.Block(state, whole[:64]); e != api.OK {
				t.Fatal(n, e)
			}
		}
		var want api.ID
		for i, x := range state {
			binary.BigEndian.PutUint32(want[4*i:], x)
		}
		if got := sha.Of(b); got != want {
			t.Errorf("%d bytes: %x; want %x", n, got, want)
		}
	}
}

func TestOfParts(t *testing.T) {
	none := api.ID(sha256.Sum256(nil))
	abc := api.ID(sha256.Sum256([]byte("abc")))
	for _, x := range []struct {
		name  string
		parts [][]byte
		want  api.ID
	}{
		{"no parts", nil, none},
		{"an empty list", [][]byte{}, none},
		{"a nil part", [][]byte{nil}, none},
		{"empty parts", [][]byte{{}, nil, {}}, none},
		{"one part", [][]byte{[]byte("abc")}, abc},
		{"two parts", [][]byte{[]byte("a"), []byte("bc")}, abc},
		{"empty parts between", [][]byte{nil, []byte("ab"), {}, []byte("c"), nil}, abc},
		{"another order", [][]byte{[]byte("c"), []byte("ab")}, sha256.Sum256([]byte("cab"))},
	} {
		if got := sha.Of(x.parts...); got != x.want {
			t.Errorf("%s: %x; want %x", x.name, got, x.want)
		}
	}
	if sha.Of() != none {
		t.Error("of nothing")
	}
}

func TestOfTurnsNothing(t *testing.T) {
	room := some(200)
	was := bytes.Clone(room)
	parts := [][]byte{room[:70], room[70:71], nil, room[100:130]}
	first := sha.Of(parts...)
	if !bytes.Equal(room, was) {
		t.Error("the bytes are changed")
	}
	if len(parts[0]) != 70 || len(parts[1]) != 1 || parts[2] != nil || len(parts[3]) != 30 {
		t.Error("the list is changed")
	}
	if again := sha.Of(parts...); again != first {
		t.Errorf("%x, then %x", first, again)
	}
}

// P2.3

// has holds a Hash against what it should be of.
func has(t *testing.T, name string, h *sha.Hash, b []byte) {
	t.Helper()
	if got, want := h.Sum(), api.ID(sha256.Sum256(b)); got != want {
		t.Errorf("%s: Sum: %x; want %x", name, got, want)
	}
	if h.Len() != uint64(len(b)) {
		t.Errorf("%s: Len: %d; want %d", name, h.Len(), len(b))
	}
}

func TestHash(t *testing.T) {
	h := sha.New()
	var all []byte
	has(t, "at first", h, nil)
	h.Write(nil)
	h.Write([]byte{})
	has(t, "after empty pieces", h, nil)
	for _, n := range []int{1, 0, 2, 52, 1, 7, 1, 64, 63, 1, 128, 129, 62, 1000, 0, 5} {
		b := some(n)
		h.Write(b)
		all = append(all, b...)
		has(t, "on the way", h, all)
		has(t, "asked again", h, all)
	}
	if h.Sum() != sha.Of(all) {
		t.Error("Sum is not Of")
	}
}

func TestSumTurnsNothing(t *testing.T) {
	for n := range 200 {
		asked, unasked := sha.New(), sha.New()
		for _, b := range some(n) {
			asked.Write([]byte{b})
			asked.Sum()
			asked.Len()
			unasked.Write([]byte{b})
		}
		if *asked != *unasked || asked.Sum() != unasked.Sum() {
			t.Fatalf("%d bytes: %x; unasked %x", n, asked.Sum(), unasked.Sum())
		}
	}
}

func TestWriteKeepsNothing(t *testing.T) {
	room := some(100)
	was := bytes.Clone(room)
	h := sha.New()
	h.Write(room[:70])
	if !bytes.Equal(room, was) {
		t.Error("the piece, or its spare room, is changed")
	}
	clear(room)
	has(t, "its piece spoilt", h, was[:70])
}

func TestHashesApart(t *testing.T) {
	one, two := sha.New(), sha.New()
	one.Write([]byte("one"))
	two.Write(some(100))
	one.Write([]byte(" more"))
	has(t, "the first", one, []byte("one more"))
	has(t, "the second", two, some(100))
	has(t, "a third", sha.New(), nil)
}

func TestCopyGoesItsOwnWay(t *testing.T) {
	one := sha.New()
	one.Write([]byte("one"))
	two := *one
	one.Write(some(100))
	two.Write([]byte(" more"))
	has(t, "the first", one, append([]byte("one"), some(100)...))
	has(t, "the copy", &two, []byte("one more"))
}

func TestHashThatNewDidNotMake(t *testing.T) {
	for name, h := range map[string]*sha.Hash{"nil": nil, "zero": {}, "new": new(sha.Hash)} {
		for _, n := range []int{0, 1, 63, 64, 200} {
			h.Write(some(n))
			if h.Len() != 0 || h.Sum() != (api.ID{}) {
				t.Errorf("%s: %d, %x", name, h.Len(), h.Sum())
			}
			if h != nil && *h != (sha.Hash{}) {
				t.Errorf("%s: something is done", name)
			}
		}
	}
}

// P2.4

func TestAllCutsInTwo(t *testing.T) {
	for _, n := range []int{3, 55, 56, 64, 65, 128, 130, 200} {
		b := some(n)
		whole := sha.New()
		whole.Write(b)
		for i := range n + 1 {
			h := sha.New()
			h.Write(b[:i])
			h.Write(b[i:])
			if *h != *whole || h.Sum() != whole.Sum() || h.Len() != whole.Len() {
				t.Fatalf("%d bytes cut at %d: %x; want %x", n, i, h.Sum(), whole.Sum())
			}
			if sha.Of(b[:i], b[i:]) != whole.Sum() {
				t.Fatalf("%d bytes in parts, cut at %d", n, i)
			}
		}
	}
}

func TestAnyPieces(t *testing.T) {
	r := rand.New(rand.NewSource(4))
	for range 500 {
		b := some(r.Intn(700))
		h := sha.New()
		var parts [][]byte
		for left := b; len(left) > 0; {
			n := r.Intn(min(len(left), 1+r.Intn(200)) + 1)
			h.Write(left[:n])
			parts = append(parts, left[:n])
			left = left[n:]
		}
		has(t, "in pieces", h, b)
		if sha.Of(parts...) != h.Sum() {
			t.Errorf("%d parts of %d bytes", len(parts), len(b))
		}
	}
}
