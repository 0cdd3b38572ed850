package bloom_test

import (
	"bytes"
	"math/big"
	"math/rand"
	"slices"
	"strconv"
	"strings"
	"testing"

	"sleuth/bloom"
	"sleuth/route"
)

// number32 is a number that goes round at 2^32, kept in 64 bits.
func number32(n uint64) uint64 { return n % (1 << 32) }

// turned is x <<< n.
func turned(x uint64, n int) uint64 { return number32(x<<n) + x>>(32-n) }

// part is a number of some bytes, the lowest first, as the hash takes it in.
func part(s string) uint64 {
	k := uint64(0)
	for n := len(s) - 1; n >= 0; n-- {
		k = 256*k + uint64(s[n])
	}
	return number32(turned(number32(k*0xcc9e2d51), 15) * 0x1b873593)
}

// hash is what Hash tells, by the words of the chapter.
func hash(seed uint32, s string) uint32 {
	h := uint64(seed)
	n := 0
	for ; n+4 <= len(s); n += 4 {
		h ^= part(s[n : n+4])
		h = number32(turned(h, 13)*5 + 0xe6546b64)
	}
	if n < len(s) {
		h ^= part(s[n:])
	}
	h ^= number32(uint64(len(s)))
	h ^= h >> 16
	h = number32(h * 0x85ebca6b)
	h ^= h >> 13
	h = number32(h * 0xc2b2ae35)
	h ^= h >> 16
	return uint32(h)
}

// bitsOf are the bits of a key in a filter of b bits, by the words of the chapter.
func bitsOf(key string, b int64) []int64 {
	h0, h1 := int64(hash(0x293ae76f, key)), int64(hash(0x7e646e2c, key))
	var l []int64
	for i := range int64(7) {
		n := new(big.Int).Mul(big.NewInt(i), big.NewInt(h1))
		n.Add(n, big.NewInt(h0))
		n.Mod(n, big.NewInt(1<<32))
		l = append(l, n.Mod(n, big.NewInt(b)).Int64())
	}
	return l
}

// different are some texts, each once, in the order in which they came.
func different(l []string) []string {
	var some []string
	for _, s := range l {
		if !slices.Contains(some, s) {
			some = append(some, s)
		}
	}
	return some
}

// made is what Make tells.
func made(keys []string) []byte {
	keys = different(keys)
	if len(keys) > 200 {
		return []byte{255}
	}
	n := 10 * len(keys)
	for n%8 != 0 {
		n++
	}
	f := make([]byte, max(n/8, 1))
	for _, key := range keys {
		for _, bit := range bitsOf(key, int64(8*len(f))) {
			f[bit/8] |= 1 << (bit % 8)
		}
	}
	return f
}

// has is what Has tells.
func has(f []byte, key string) bool {
	if len(f) == 0 {
		return true
	}
	for _, bit := range bitsOf(key, int64(8*len(f))) {
		if f[bit/8]&(1<<(bit%8)) == 0 {
			return false
		}
	}
	return true
}

// anyText is one of so many bytes.
func anyText(r *rand.Rand, n int) string {
	b := make([]byte, n)
	r.Read(b)
	return string(b)
}

// anyTexts are n, short and long, that differ.
func anyTexts(r *rand.Rand, n int) []string {
	var l []string
	for k := range n {
		l = append(l, anyText(r, r.Intn(20))+"/"+strconv.Itoa(k))
	}
	return l
}

// numbered are n texts that differ.
func numbered(n int) []string {
	l := make([]string, n)
	for k := range l {
		l[k] = "dir/file" + strconv.Itoa(k)
	}
	return l
}

// P16.1: Hash

func TestHash(t *testing.T) {
	for _, x := range []struct {
		seed uint32
		s    string
		want uint32
	}{
		{0, "", 0}, {1, "", 0x514e28b7}, {0xffffffff, "", 0x81f16f39},
		{0, "\x00", 0x514e28b7}, {0, "\x00\x00", 0x30f4c306}, {0, "\x00\x00\x00", 0x85f0b427}, {0, "\x00\x00\x00\x00", 0x2362f9de},
		{0, "\x21", 0x72661cf4}, {0, "\x21\x43", 0xa0f7b07a}, {0, "\x21\x43\x65", 0x7e4a8634}, {0, "\x21\x43\x65\x87", 0xf55b516b},
		{0, "\xff\xff\xff\xff", 0x76293b50}, {0x5082edee, "\x21\x43\x65\x87", 0x2362f9de},
		{0x9747b28c, "a", 0x7fa09ea6}, {0x9747b28c, "aa", 0x5d211726}, {0x9747b28c, "aaa", 0x283e0130}, {0x9747b28c, "aaaa", 0x5a97808a},
		{0x9747b28c, "ab", 0x74875592}, {0x9747b28c, "abc", 0xc84a62dd}, {0x9747b28c, "abcd", 0xf0478627},
		{0, "abc", 0xb3dd93fa}, {0, "abcdbcdecdefdefgefghfghighijhijkijkljklmklmnlmnomnopnopq", 0xee925b90},
		{0x9747b28c, "Hello, world!", 0x24884cba}, {0, "Hello world!", 0x627b0c2c},
		{0x9747b28c, "ππππππππ", 0xd58063c1}, {0x9747b28c, strings.Repeat("a", 256), 0x37405bdc},
		{0x9747b28c, "The quick brown fox jumps over the lazy dog", 0x2fa826cd}, {0, "The quick brown fox jumps over the lazy dog", 0x2e4ff723},
	} {
		if h := bloom.Hash(x.seed, x.s); h != x.want {
			t.Errorf("Hash(%x, %q): %x, want %x", x.seed, x.s, h, x.want)
		}
		if h := hash(x.seed, x.s); h != x.want {
			t.Errorf("the model's of %x, %q: %x, want %x", x.seed, x.s, h, x.want)
		}
	}
}

func TestHashOfEachLength(t *testing.T) {
	r := rand.New(rand.NewSource(161))
	for n := range 300 {
		for range 20 {
			seed, s := r.Uint32(), anyText(r, n)
			if h, want := bloom.Hash(seed, s), hash(seed, s); h != want {
				t.Fatalf("Hash(%x, %q): %x, want %x", seed, s, h, want)
			}
		}
	}
}

func TestHashOfLongTexts(t *testing.T) {
	r := rand.New(rand.NewSource(162))
	for _, n := range []int{1<<16 - 1, 1 << 16, 1<<16 + 1, 1<<20 + 3, 1<<24 + 2} {
		s := anyText(r, n)
		if h, want := bloom.Hash(5, s), hash(5, s); h != want {
			t.Errorf("of %d bytes: %x, want %x", n, h, want)
		}
	}
}

// Each step can be undone, so no change of one byte, and none of the seed, goes lost.
func TestEachByteCounts(t *testing.T) {
	for n := 1; n <= 9; n++ {
		for at := range n {
			seen := map[uint32]int{}
			for c := range 256 {
				b := bytes.Repeat([]byte{'q'}, n)
				b[at] = byte(c)
				seen[bloom.Hash(3, string(b))]++
			}
			if len(seen) != 256 {
				t.Errorf("byte %d of %d: %d hashes", at, n, len(seen))
			}
		}
	}
	seen := map[uint32]int{}
	for k := range 32 {
		seen[bloom.Hash(1<<k, "abcde")]++
	}
	if len(seen) != 32 {
		t.Errorf("seeds: %d hashes", len(seen))
	}
}

// P16.1: Make

func TestMake(t *testing.T) {
	for _, x := range []struct {
		keys []string
		want []byte
	}{
		{nil, []byte{0}}, {[]string{}, []byte{0}},
		{[]string{""}, []byte{0x11, 0x11}}, {[]string{" "}, []byte{0x51, 0x55}}, {[]string{"Hello world!"}, []byte{0x92, 0x6c}}, {[]string{"file.txt"}, []byte{0xa5, 0x4a}},
		{[]string{"file.txt", "file.txt", "file.txt"}, []byte{0xa5, 0x4a}},
	} {
		if f := bloom.Make(x.keys); !bytes.Equal(f, x.want) {
			t.Errorf("Make(%q): %x, want %x", x.keys, f, x.want)
		}
		if f := made(x.keys); !bytes.Equal(f, x.want) {
			t.Errorf("the model's of %q: %x, want %x", x.keys, f, x.want)
		}
	}
}

func TestHowLongAFilterIs(t *testing.T) {
	for _, x := range [][2]int{{0, 1}, {1, 2}, {2, 3}, {3, 4}, {4, 5}, {5, 7}, {8, 10}, {9, 12}, {100, 125}, {199, 249}, {200, 250}, {201, 1}, {202, 1}, {1000, 1}, {100000, 1}} {
		if f := bloom.Make(numbered(x[0])); len(f) != x[1] {
			t.Errorf("of %d keys: %d bytes, want %d", x[0], len(f), x[1])
		}
	}
}

// alikeMake asks of some keys, and of the same ones in another order, and some of them twice.
func alikeMake(t *testing.T, r *rand.Rand, keys []string) {
	t.Helper()
	want := made(keys)
	if f := bloom.Make(keys); !bytes.Equal(f, want) {
		t.Fatalf("Make(%q): %x, want %x", keys, f, want)
	}
	more := append(slices.Clone(keys), keys[:r.Intn(len(keys)+1)]...)
	r.Shuffle(len(more), func(a, b int) { more[a], more[b] = more[b], more[a] })
	if f := bloom.Make(more); !bytes.Equal(f, want) {
		t.Fatalf("Make(%q): %x, want %x", more, f, want)
	}
}

func TestMakeOfEachNumberOfKeys(t *testing.T) {
	r := rand.New(rand.NewSource(163))
	for n := range 205 {
		alikeMake(t, r, numbered(n))
		alikeMake(t, r, anyTexts(r, n))
	}
}

func TestMakeOfFewKeys(t *testing.T) {
	r := rand.New(rand.NewSource(164))
	for range 2000 {
		alikeMake(t, r, anyTexts(r, r.Intn(6)))
	}
}

func TestTooManyKeys(t *testing.T) {
	most := numbered(200)
	twice := slices.Concat(most, most, most)
	if f := bloom.Make(twice); len(f) != 250 || !bytes.Equal(f, bloom.Make(most)) {
		t.Error("of 200 keys three times:", f)
	}
	for _, more := range []string{"", "x", "\xff", "dir/file200", strings.Repeat("x", 5000)} {
		for _, at := range []int{0, 7, 200, 600} {
			if f := bloom.Make(slices.Insert(slices.Clone(twice), at, more)); !bytes.Equal(f, []byte{255}) {
				t.Errorf("of 200 keys three times, and %q: %x", more, f)
			}
		}
	}
}

// Keys are any texts: none is left out, and no two that differ are one.
func TestKeysOfAnyBytes(t *testing.T) {
	for _, keys := range [][]string{
		{"a", "A"}, {"a", "a/"}, {"a", "a "}, {"", "\x00"}, {"\x00", "\x00\x00"}, {"/", "//"}, {".", ".."}, {"a//b", "a/b"}, {"ä", "a\u0308"}, {"\xff", "\xfe"}, {"\n", ""}, {"a\x00b", "a\x00c"},
	} {
		f := bloom.Make(keys)
		if len(f) != 3 || !bytes.Equal(f, made(keys)) {
			t.Errorf("Make(%q): %x, want %x", keys, f, made(keys))
		}
	}
}

// P16.2: Has

func TestHas(t *testing.T) {
	for _, x := range []struct {
		f    []byte
		key  string
		want bool
	}{
		{nil, "", true}, {nil, "a", true}, {[]byte{}, "a", true}, {[]byte{}, strings.Repeat("x", 5000), true},
		{[]byte{0}, "", false}, {[]byte{0}, "a", false}, {make([]byte, 250), "a", false}, {[]byte{255}, "", true}, {[]byte{255}, "a", true}, {bytes.Repeat([]byte{255}, 513), "\xff", true},
		{[]byte{0x11, 0x11}, "", true}, {[]byte{0x51, 0x55}, " ", true}, {[]byte{0x92, 0x6c}, "Hello world!", true}, {[]byte{0xa5, 0x4a}, "file.txt", true},
		{[]byte{0x11, 0x11}, " ", false}, {[]byte{0x51, 0x55}, "", true}, {[]byte{0x92, 0x6c}, "file.txt", false}, {[]byte{0xa5, 0x4a}, "Hello world!", false},
		{[]byte{0xa5, 0x4b}, "file.txt", true}, {[]byte{0xa5, 0x0a}, "file.txt", false}, {[]byte{0x25, 0x4a}, "file.txt", false}, {[]byte{0xa5}, "file.txt", false},
	} {
		if bloom.Has(x.f, x.key) != x.want {
			t.Errorf("Has(%x, %q): want %v", x.f, x.key, x.want)
		}
	}
}

func TestEachBitCounts(t *testing.T) {
	r := rand.New(rand.NewSource(165))
	for n := 1; n < 40; n++ {
		key := anyText(r, n)
		own := slices.Compact(slices.Sorted(slices.Values(bitsOf(key, int64(8*n)))))
		for bit := range 8 * n {
			f := bytes.Repeat([]byte{255}, n)
			f[bit/8] -= 1 << (bit % 8)
			if want := !slices.Contains(own, int64(bit)); bloom.Has(f, key) != want {
				t.Errorf("of %d bytes without bit %d: want %v of %v", n, bit, want, own)
			}
		}
		f := make([]byte, n)
		for _, bit := range own {
			if bloom.Has(f, key) {
				t.Errorf("of %d bytes with some of %v alone", n, own)
			}
			f[bit/8] |= 1 << (bit % 8)
		}
		if !bloom.Has(f, key) {
			t.Errorf("of %d bytes with %v alone", n, own)
		}
	}
}

func TestHasAgainstModel(t *testing.T) {
	r := rand.New(rand.NewSource(166))
	yes := 0
	for range 20000 {
		f := make([]byte, r.Intn(30))
		r.Read(f)
		for k := range f {
			f[k] |= byte(r.Intn(256)) | byte(r.Intn(256))
		}
		key := anyText(r, r.Intn(12))
		want := has(f, key)
		if bloom.Has(f, key) != want {
			t.Fatalf("Has(%x, %q): want %v", f, key, want)
		}
		if want {
			yes++
		}
	}
	if yes < 4000 || 16000 < yes {
		t.Error("one answer nearly always", yes)
	}
}

// A filter may have more bits than 32 bits count. It is made once, so that only the bytes that are asked are ever touched.
func TestVeryLongFilters(t *testing.T) {
	longest := make([]byte, 1<<29+1)
	for _, n := range []int{1<<16 + 1, 1 << 29, 1<<29 + 1} {
		f := longest[:n]
		var set []int64
		for _, key := range []string{"", "a", "dir/file"} {
			if bloom.Has(f, key) {
				t.Errorf("of %d bytes, %q is in it", n, key)
			}
			for _, bit := range bitsOf(key, 8*int64(n)) {
				f[bit/8] |= 1 << (bit % 8)
				set = append(set, bit)
			}
			if !bloom.Has(f, key) {
				t.Errorf("of %d bytes, %q is not in it", n, key)
			}
		}
		for _, bit := range set {
			f[bit/8] = 0
		}
	}
}

// P16.2: Bits

func TestBits(t *testing.T) {
	for _, x := range []struct {
		f    []byte
		want int
	}{
		{nil, 0}, {[]byte{}, 0}, {[]byte{0}, 0}, {[]byte{255}, 8}, {[]byte{1, 2, 4, 8, 16, 32, 64, 128}, 8}, {[]byte{0x11, 0x11}, 4}, {[]byte{0xa5, 0x4a}, 7}, {bytes.Repeat([]byte{255}, 1000), 8000}, {bytes.Repeat([]byte{0, 3}, 70000), 140000},
	} {
		if n := bloom.Bits(x.f); n != x.want {
			t.Errorf("Bits(%.40x): %d, want %d", x.f, n, x.want)
		}
	}
}

func TestBitsOfEachByte(t *testing.T) {
	sum := 0
	var f []byte
	for c := range 256 {
		n := strings.Count(strconv.FormatInt(int64(c), 2), "1")
		if got := bloom.Bits([]byte{byte(c)}); got != n {
			t.Errorf("of the byte %d: %d, want %d", c, got, n)
		}
		f = append(f, byte(c))
		sum += n
		if got := bloom.Bits(f); got != sum {
			t.Errorf("of the bytes to %d: %d, want %d", c, got, sum)
		}
	}
}

// P16.3

// long is a name of so many bytes.
func long(n int) string { return strings.Repeat("n", n) }

// most is a path of 120 bytes, which is as many as there may be.
var most = strings.Join([]string{long(32), long(32), long(32), long(10), long(10)}, "/")

func TestPaths(t *testing.T) {
	for _, x := range []struct{ changed, want []string }{
		{nil, nil}, {[]string{}, nil},
		{[]string{"a"}, []string{"a"}}, {[]string{"a/b"}, []string{"a", "a/b"}}, {[]string{"a/b/c", "a/d", "a//"}, []string{"a", "a/b", "a/b/c", "a/d"}},
		{[]string{"1/2/3/4/5/6"}, []string{"1", "1/2", "1/2/3", "1/2/3/4", "1/2/3/4/5", "1/2/3/4/5/6"}},
		{[]string{"a", "a", "a/b", "a/b", "a"}, []string{"a", "a/b"}}, {[]string{"b", "a"}, []string{"a", "b"}}, {[]string{"a/b", "b/a"}, []string{"a", "a/b", "b", "b/a"}},
		// By their bytes: the stroke is behind - and ahead of 0, a capital ahead of both kinds of small ones.
		{[]string{"a/b", "a0", "a-b/x", "a.b", "A"}, []string{"A", "a", "a-b", "a-b/x", "a.b", "a/b", "a0"}},
		{[]string{"ab", "a", "abc", "B", "10", "9", "2"}, []string{"10", "2", "9", "B", "a", "ab", "abc"}},
		{[]string{".../*", "~", "!"}, []string{"!", "...", ".../*", "~"}}, {[]string{"**/?"}, []string{"**", "**/?"}},
		{[]string{most}, []string{most[:32], most[:65], most[:98], most[:109], most}}, {[]string{long(32)}, []string{long(32)}},
	} {
		l := bloom.Paths(x.changed)
		if !slices.Equal(l, x.want) {
			t.Errorf("Paths(%q): %q, want %q", x.changed, l, x.want)
		}
	}
}

// wrong are texts that are no paths.
var wrong = []string{"", "/", "a/", "/a", "a//b", ".", "..", "x/.", "../x", "x/../y", "x/./y", "x/b/c/d/e/f/g", long(33), "x/" + long(33), most + "n", "a b", "x/b\n", "\x80/a", "x/\xff", "\x00", strings.Repeat("x/", 500) + "x", strings.Repeat("/", 119)}

func TestWrongPaths(t *testing.T) {
	if l := bloom.Paths(wrong); len(l) != 0 {
		t.Errorf("of wrong ones alone: %q", l)
	}
	for _, s := range wrong {
		for _, changed := range [][]string{{s, "q/r"}, {"q/r", s}, {s, "q/r", s}} {
			if l := bloom.Paths(changed); !slices.Equal(l, []string{"q", "q/r"}) {
				t.Errorf("Paths(%q): %q", changed, l)
			}
		}
	}
}

// above are what Paths tells, by another way: all that are above one of changed, or one of them.
func above(changed []string) []string {
	var l []string
	for _, s := range changed {
		if !route.Right(s) {
			continue
		}
		for n := range len(s) + 1 {
			if n == len(s) || s[n] == '/' {
				l = append(l, s[:n])
			}
		}
	}
	return slices.Compact(slices.Sorted(slices.Values(l)))
}

func TestPathsAgainstModel(t *testing.T) {
	r := rand.New(rand.NewSource(167))
	names := []string{"a", "b", "a-b", "a.b", "a0", "A", "", "..", long(32)}
	for range 3000 {
		var changed []string
		for range r.Intn(12) {
			var parts []string
			for range r.Intn(8) {
				parts = append(parts, names[min(r.Intn(len(names)), r.Intn(len(names)))])
			}
			changed = append(changed, strings.Join(parts, "/"))
		}
		want := above(changed)
		if l := bloom.Paths(changed); !slices.Equal(l, want) {
			t.Fatalf("Paths(%q): %q, want %q", changed, l, want)
		}
		again := bloom.Paths(bloom.Paths(changed))
		if !slices.Equal(again, want) {
			t.Fatalf("Paths of Paths(%q): %q, want %q", changed, again, want)
		}
	}
}

func TestManyPaths(t *testing.T) {
	var changed, want []string
	for k := range 100000 {
		changed = append(changed, "d"+strconv.Itoa(k%100)+"/f"+strconv.Itoa(k))
	}
	want = above(changed)
	if l := bloom.Paths(changed); len(l) != 100100 || !slices.Equal(l, want) {
		t.Error("of many:", len(l))
	}
}

// P16.4: what follows

func TestEachKeyIsInItsFilter(t *testing.T) {
	r := rand.New(rand.NewSource(168))
	for n := range 230 {
		keys := anyTexts(r, n)
		f := bloom.Make(keys)
		for _, key := range keys {
			if !bloom.Has(f, key) {
				t.Fatalf("%q is not in the filter of %q", key, keys)
			}
		}
		if most := 7 * len(keys); n <= 200 && bloom.Bits(f) > most {
			t.Errorf("%d keys have %d bits", n, bloom.Bits(f))
		}
	}
}

func TestPathsAndDirectoriesAreInTheirFilter(t *testing.T) {
	changed := []string{"src/a/b.go", "src/c.go", "doc/x", "README"}
	f := bloom.Make(bloom.Paths(changed))
	for _, s := range []string{"src", "src/a", "src/a/b.go", "src/c.go", "doc", "doc/x", "README"} {
		if !bloom.Has(f, s) {
			t.Errorf("%q is not in it", s)
		}
	}
	others := 0
	for k := range 1000 {
		if bloom.Has(f, "other"+strconv.Itoa(k)) {
			others++
		}
	}
	if others > 50 {
		t.Errorf("%d of 1000 others are in it", others)
	}
}

// what is handed in, and what is answered

// roomy is the same list with spare room, in which texts stand.
func roomy(l []string) []string {
	return append(append(make([]string, 0, len(l)+4), l...), "spare", "room", "of", "four")[:len(l)]
}

func TestNothingIsChanged(t *testing.T) {
	r := rand.New(rand.NewSource(169))
	for _, n := range []int{0, 1, 5, 50, 200, 201, 300} {
		keys := roomy(append(numbered(n/2), anyTexts(r, n-n/2)...))
		r.Shuffle(len(keys), func(a, b int) { keys[a], keys[b] = keys[b], keys[a] })
		before := slices.Clone(keys[:cap(keys)])
		f := bloom.Make(keys)
		bloom.Paths(keys)
		if !slices.Equal(keys[:cap(keys)], before) {
			t.Error("the list that was handed in is another one")
		}
		f = append(append(make([]byte, 0, len(f)+3), f...), 1, 2, 3)[:len(f)]
		old := bytes.Clone(f[:cap(f)])
		for _, key := range append(anyTexts(r, 50), keys...) {
			bloom.Has(f, key)
		}
		bloom.Bits(f)
		if !bytes.Equal(f[:cap(f)], old) {
			t.Error("the filter that was handed in is another one")
		}
	}
}

func TestAnswersShareNothing(t *testing.T) {
	for _, n := range []int{0, 1, 5, 200, 201} {
		keys := numbered(n)
		want := bytes.Clone(bloom.Make(keys))
		f, g := bloom.Make(keys), bloom.Make(keys)
		for k := range f[:cap(f)] {
			f[:cap(f)][k] ^= 255
		}
		if !bytes.Equal(g, want) || !bytes.Equal(bloom.Make(keys), want) {
			t.Error("two filters share memory")
		}
		changed := numbered(n)
		paths := above(changed)
		l, m := bloom.Paths(changed), bloom.Paths(changed)
		for k := range l[:cap(l)] {
			l[:cap(l)][k] = "other"
		}
		if !slices.Equal(m, paths) || !slices.Equal(bloom.Paths(changed), paths) || !slices.Equal(changed, numbered(n)) {
			t.Error("two lists of paths share memory")
		}
		clear(changed)
		clear(keys)
		if !slices.Equal(m, paths) || !bytes.Equal(g, want) {
			t.Error("an answer shares memory with what was handed in")
		}
	}
}

func TestTheSameIsAnsweredAgain(t *testing.T) {
	r := rand.New(rand.NewSource(160))
	keys := anyTexts(r, 150)
	changed := numbered(150)
	f, l := bloom.Make(keys), bloom.Paths(changed)
	for range 50 {
		if !bytes.Equal(bloom.Make(keys), f) || !slices.Equal(bloom.Paths(changed), l) {
			t.Fatal("another answer")
		}
	}
}
