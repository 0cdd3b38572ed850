package crc_test

import (
	"bytes"
	"hash/crc32"
	"math"
	"math/rand"
	"strings"
	"testing"

	"sleuth/api"
	"sleuth/crc"
)

// some is n bytes of all kinds.
func some(n int) []byte {
	b := make([]byte, n)
	rand.New(rand.NewSource(int64(n))).Read(b)
	return b
}

// step is the register after a byte, as the chapter says it.
func step(register uint32, x byte) uint32 {
	register ^= uint32(x)
	for range 8 {
		out := register & 1
		register >>= 1
		if out == 1 {
			register ^= 0xedb88320
		}
	}
	return register
}

// sum is the sum of bytes, as the chapter says it.
func sum(b []byte) uint32 {
	register := uint32(0xffffffff)
	for _, x := range b {
		register = step(register, x)
	}
	return register ^ 0xffffffff
}

// sums are those that calls are asked of where any will do: none, all, each bit alone, and others.
func sums() []uint32 {
	list := []uint32{0, math.MaxUint32, 0xcbf43926, 0xedb88320, 0x12345678}
	for k := range 32 {
		list = append(list, 1<<k)
	}
	r := rand.New(rand.NewSource(3))
	for range 20 {
		list = append(list, r.Uint32())
	}
	return list
}

// P3.1

func TestOfKnown(t *testing.T) {
	for _, x := range []struct {
		s    string
		want uint32
	}{
		{"", 0},
		{"\x00", 0xd202ef8d},
		{"\xff", 0xff000000},
		{"\x00\x00\x00\x00", 0x2144df1c},
		{"\xff\xff\xff\xff", 0xffffffff},
		{"a", 0xe8b7be43},
		{"abc", 0x352441c2},
		{"123456789", 0xcbf43926},
		{"The quick brown fox jumps over the lazy dog", 0x414fa339},
		{strings.Repeat("a", 1000000), 0xdc25bfbc},
	} {
		if c := crc.Of([]byte(x.s)); c != x.want {
			t.Errorf("%.20q: %08x; want %08x", x.s, c, x.want)
		}
	}
}

func TestOfEachByte(t *testing.T) {
	for x := range 256 {
		b := []byte{byte(x)}
		if got := crc.Of(b); got != sum(b) || got != crc32.ChecksumIEEE(b) {
			t.Errorf("byte %d: %08x; want %08x", x, got, sum(b))
		}
	}
}

func TestOfEachLength(t *testing.T) {
	for n := range 300 {
		b := some(n)
		if got := crc.Of(b); got != sum(b) || got != crc32.ChecksumIEEE(b) {
			t.Errorf("%d bytes: %08x; want %08x", n, got, sum(b))
		}
	}
}

func TestOfParts(t *testing.T) {
	for _, x := range []struct {
		name  string
		parts [][]byte
		whole string
	}{
		{"no parts", nil, ""},
		{"an empty list", [][]byte{}, ""},
		{"a nil part", [][]byte{nil}, ""},
		{"empty parts", [][]byte{{}, nil, {}}, ""},
		{"one part", [][]byte{[]byte("123456789")}, "123456789"},
		{"two parts", [][]byte{[]byte("1234"), []byte("56789")}, "123456789"},
		{"empty parts between", [][]byte{nil, []byte("12"), {}, []byte("3456789"), nil}, "123456789"},
		{"another order", [][]byte{[]byte("56789"), []byte("1234")}, "567891234"},
		{"one part twice", [][]byte{[]byte("ab"), []byte("ab")}, "abab"},
		{"parts of 0", [][]byte{{0}, {0, 0}, {0}}, "\x00\x00\x00\x00"},
	} {
		if got, want := crc.Of(x.parts...), sum([]byte(x.whole)); got != want {
			t.Errorf("%s: %08x; want %08x", x.name, got, want)
		}
	}
	if c := crc.Of(); c != 0 {
		t.Errorf("of nothing: %08x", c)
	}
}

func TestOfAnyParts(t *testing.T) {
	r := rand.New(rand.NewSource(1))
	for range 300 {
		b := some(r.Intn(400))
		var parts [][]byte
		for left := b; len(left) > 0; {
			n := r.Intn(min(len(left), 1+r.Intn(100)) + 1)
			parts = append(parts, left[:n])
			left = left[n:]
		}
		if got := crc.Of(parts...); got != sum(b) {
			t.Errorf("%d parts of %d bytes: %08x; want %08x", len(parts), len(b), got, sum(b))
		}
	}
}

func TestMoreAtAllCuts(t *testing.T) {
	for _, n := range []int{0, 1, 2, 3, 4, 5, 8, 9, 64, 100} {
		b := some(n)
		for i := range n + 1 {
			if got := crc.More(sum(b[:i]), b[i:]); got != sum(b) {
				t.Errorf("%d bytes cut at %d: %08x; want %08x", n, i, got, sum(b))
			}
		}
	}
}

// Any number is the sum of some text, so More has an answer for each.
func TestMoreOfAnySum(t *testing.T) {
	for _, c := range sums() {
		for _, n := range []int{0, 1, 3, 4, 5, 31} {
			b := some(n)
			if got, want := crc.More(c, b), crc32.Update(c, crc32.IEEETable, b); got != want {
				t.Errorf("%08x and %d bytes: %08x; want %08x", c, n, got, want)
			}
		}
		if crc.More(c, nil) != c || crc.More(c, []byte{}) != c {
			t.Errorf("%08x and nothing: %08x, %08x", c, crc.More(c, nil), crc.More(c, []byte{}))
		}
	}
}

func TestSumsTurnNothing(t *testing.T) {
	room := some(60)
	was := bytes.Clone(room)
	parts := [][]byte{room[:20], nil, room[30:31], room[40:50]}
	first := crc.Of(parts...)
	more := crc.More(first, room[:20])
	if !bytes.Equal(room, was) {
		t.Error("the bytes are changed")
	}
	if len(parts[0]) != 20 || parts[1] != nil || len(parts[2]) != 1 || len(parts[3]) != 10 {
		t.Error("the list is changed")
	}
	if crc.Of(parts...) != first || crc.More(first, room[:20]) != more {
		t.Error("asked again, another one")
	}
}

// P3.2

func TestJoinExample(t *testing.T) {
	a, b := crc.Of([]byte("1234")), crc.Of([]byte("56789"))
	if c, e := crc.Join(a, b, 5); c != 0xcbf43926 || e != api.OK {
		t.Errorf("%08x, %d", c, e)
	}
}

func TestJoinAtAllCuts(t *testing.T) {
	for _, n := range []int{0, 1, 2, 7, 8, 9, 31, 64, 100, 257} {
		b := some(n)
		for i := range n + 1 {
			c, e := crc.Join(sum(b[:i]), sum(b[i:]), n-i)
			if c != sum(b) || e != api.OK {
				t.Fatalf("%d bytes cut at %d: %08x, %d; want %08x", n, i, c, e, sum(b))
			}
		}
	}
}

func TestJoinOfLongTexts(t *testing.T) {
	first := some(77)
	for _, n := range []int{1023, 1024, 4000, 32767, 32768, 32769, 65535, 65536} {
		second := some(n)
		want := sum(append(bytes.Clone(first), second...))
		if c, e := crc.Join(sum(first), sum(second), n); c != want || e != api.OK {
			t.Errorf("%d bytes: %08x, %d; want %08x", n, c, e, want)
		}
	}
}

// joined is a, taken on over n bytes of 0, exclusive or with b, as the chapter says it.
func joined(a, b uint32, n int) uint32 {
	for range n {
		a = step(a, 0)
	}
	return a ^ b
}

func TestJoinOfAnySums(t *testing.T) {
	list := sums()
	for i, a := range list {
		b := list[(i*7+3)%len(list)]
		for _, n := range []int{0, 1, 2, 3, 4, 5, 6, 7, 8, 15, 16, 17, 100, 255, 256, 1000} {
			if c, e := crc.Join(a, b, n); c != joined(a, b, n) || e != api.OK {
				t.Errorf("%08x, %08x, %d: %08x, %d; want %08x", a, b, n, c, e, joined(a, b, n))
			}
		}
	}
}

func TestJoinOverEachLength(t *testing.T) {
	const a, b = 0x9e3779b9, 0x7f4a7c15
	walked := uint32(a)
	for n := range 65537 {
		if c, e := crc.Join(a, b, n); c != walked^b || e != api.OK {
			t.Fatalf("%d: %08x, %d; want %08x", n, c, e, walked^b)
		}
		walked = step(walked, 0)
	}
}

func TestJoinOverNothing(t *testing.T) {
	for _, a := range sums() {
		if c, e := crc.Join(a, 0, 0); c != a || e != api.OK {
			t.Errorf("%08x and none: %08x, %d", a, c, e)
		}
		if c, e := crc.Join(a, a, 0); c != 0 || e != api.OK {
			t.Errorf("%08x twice: %08x, %d", a, c, e)
		}
		if c, e := crc.Join(0, a, 65536); c != a || e != api.OK {
			t.Errorf("none and %08x: %08x, %d", a, c, e)
		}
	}
}

func TestJoinErrors(t *testing.T) {
	for _, n := range []int{-1, -2, -65536, math.MinInt32, math.MinInt, 65537, 65538, 131072, math.MaxInt32, math.MaxInt} {
		for _, a := range []uint32{0, 1, math.MaxUint32} {
			if c, e := crc.Join(a, 0xcbf43926, n); c != 0 || e != api.ErrArg {
				t.Errorf("%08x over %d: %08x, %d", a, n, c, e)
			}
		}
	}
}

// P3.3

// burst turns bits one by one, as the chapter says it.
func burst(b []byte, at int, turn uint32) []byte {
	out := bytes.Clone(b)
	for j := range uint(32) {
		if turn&(1<<j) != 0 {
			k := at + int(j)
			worth := byte(1) << (k % 8)
			if out[k/8]&worth == 0 {
				out[k/8] += worth
			} else {
				out[k/8] -= worth
			}
		}
	}
	return out
}

func TestBurstByHand(t *testing.T) {
	for _, x := range []struct {
		b    string
		at   int
		turn uint32
		want string
	}{
		{"\x00\x00\x00\x00", 0, 0x04030201, "\x01\x02\x03\x04"},
		{"\xff\xff\xff\xff", 0, 0x04030201, "\xfe\xfd\xfc\xfb"},
		{"\x00\x00\x00\x00", 0, 0, "\x00\x00\x00\x00"},
		{"\x00\x00\x00\x00", 0, math.MaxUint32, "\xff\xff\xff\xff"},
		{"\x00\x00\x00\x00", 0, 1, "\x01\x00\x00\x00"},
		{"\x00\x00\x00\x00", 0, 1 << 31, "\x00\x00\x00\x80"},
		{"\x00\x00\x00\x00\x00", 8, 1, "\x00\x01\x00\x00\x00"},
		{"\x00\x00\x00\x00\x00", 1, 1, "\x02\x00\x00\x00\x00"},
		{"\x00\x00\x00\x00\x00", 7, 3, "\x80\x01\x00\x00\x00"},
		{"\x00\x00\x00\x00\x00", 3, math.MaxUint32, "\xf8\xff\xff\xff\x07"},
		{"\x00\x00\x00\x00\x00", 8, math.MaxUint32, "\x00\xff\xff\xff\xff"},
		{"abcdef", 16, 0x20202020, "abCDEF"},
	} {
		b, e := crc.Burst([]byte(x.b), x.at, x.turn)
		if string(b) != x.want || e != api.OK {
			t.Errorf("%x, %d, %08x: %x, %d; want %x", x.b, x.at, x.turn, b, e, x.want)
		}
	}
}

func TestBurstAtEachPlace(t *testing.T) {
	for n := range 13 {
		b := some(n)
		for at := range max(0, 8*n-31) {
			for _, turn := range sums() {
				got, e := crc.Burst(b, at, turn)
				if want := burst(b, at, turn); !bytes.Equal(got, want) || e != api.OK {
					t.Fatalf("%x, %d, %08x: %x, %d; want %x", b, at, turn, got, e, want)
				}
			}
		}
	}
}

func TestBurstErrors(t *testing.T) {
	for n := range 13 {
		b := some(n)
		for _, turn := range []uint32{0, 1, math.MaxUint32} {
			places := []int{-1, -8, -32, -8*n - 1, math.MinInt32, math.MinInt, math.MinInt + 31, math.MaxInt32, math.MaxInt}
			for at := max(0, 8*n-31); at < 8*n+40; at++ {
				places = append(places, at)
			}
			for _, at := range places {
				if got, e := crc.Burst(b, at, turn); len(got) != 0 || e != api.ErrArg {
					t.Errorf("%d bytes, %d, %08x: %x, %d", n, at, turn, got, e)
				}
			}
		}
	}
	for _, at := range []int{-32, -1, 0, 1, 32} {
		if got, e := crc.Burst(nil, at, 1); len(got) != 0 || e != api.ErrArg {
			t.Errorf("nil, %d: %x, %d", at, got, e)
		}
	}
}

// Spare room is no part of a list: the bits in it can't be turned.
func TestBurstNotInSpareRoom(t *testing.T) {
	room := some(16)
	if got, e := crc.Burst(room[:4], 1, 1); len(got) != 0 || e != api.ErrArg {
		t.Errorf("%x, %d", got, e)
	}
	if got, e := crc.Burst(room[:3], 0, 1); len(got) != 0 || e != api.ErrArg {
		t.Errorf("%x, %d", got, e)
	}
}

func TestBurstSharesNoMemory(t *testing.T) {
	for _, turn := range []uint32{0, 0x12345678} {
		room := some(20)
		was := bytes.Clone(room)
		one, _ := crc.Burst(room[:10], 5, turn)
		two, _ := crc.Burst(room[:10], 5, turn)
		for k := range one[:cap(one)] {
			one[:cap(one)][k] ^= 255
		}
		if !bytes.Equal(room, was) {
			t.Errorf("%08x: what was handed in, or its spare room, is changed: %x; want %x", turn, room, was)
		}
		clear(room)
		if want := burst(was[:10], 5, turn); !bytes.Equal(two, want) {
			t.Errorf("%08x: what was answered is shared: %x; want %x", turn, two, want)
		}
	}
}

func TestBurstTwice(t *testing.T) {
	b := some(9)
	for at := range 8*len(b) - 31 {
		once, _ := crc.Burst(b, at, 0x80000001)
		if twice, e := crc.Burst(once, at, 0x80000001); !bytes.Equal(twice, b) || bytes.Equal(once, b) || e != api.OK {
			t.Errorf("at %d: %x, then %x; want %x", at, once, twice, b)
		}
	}
}

// P3.4

// bursts are bits in a row: each alone, all rows of ones, and others.
func bursts() []uint32 {
	list := []uint32{0xedb88320, 0xdb710641, 0x80000001, 0x55555555, 0xaaaaaaaa}
	for n := range 32 {
		for from := range 32 - n {
			list = append(list, uint32(1<<(n+1)-1)<<from)
		}
	}
	r := rand.New(rand.NewSource(4))
	for range 500 {
		if turn := r.Uint32() >> r.Intn(32); turn != 0 {
			list = append(list, turn)
		}
	}
	return list
}

func TestBurstChangesTheSum(t *testing.T) {
	list := bursts()
	for _, b := range [][]byte{make([]byte, 4), some(4), make([]byte, 9), bytes.Repeat([]byte{255}, 9), some(9), some(40)} {
		was := crc.Of(b)
		for at := range 8*len(b) - 31 {
			for _, turn := range list {
				turned, e := crc.Burst(b, at, turn)
				if e != api.OK || crc.Of(turned) == was {
					t.Fatalf("%x, %d, %08x: %x, %d has the sum %08x, too", b, at, turn, turned, e, was)
				}
			}
		}
	}
}

func TestBurstInALongText(t *testing.T) {
	b := some(4000)
	was := crc.Of(b)
	list := bursts()
	for k, turn := range list {
		at := k * (8*len(b) - 32) / (len(list) - 1)
		turned, e := crc.Burst(b, at, turn)
		if e != api.OK || crc.Of(turned) == was {
			t.Errorf("%d, %08x: %d, and the sum %08x, too", at, turn, e, was)
		}
	}
}

func TestNothingTurnedKeepsTheSum(t *testing.T) {
	b := some(40)
	for at := range 8*len(b) - 31 {
		if same, e := crc.Burst(b, at, 0); e != api.OK || !bytes.Equal(same, b) || crc.Of(same) != crc.Of(b) {
			t.Errorf("at %d: %x, %d", at, same, e)
		}
	}
}
