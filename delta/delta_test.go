package delta_test

import (
	"bytes"
	"math"
	"math/rand"
	"slices"
	"strconv"
	"strings"
	"testing"

	"sleuth/api"
	"sleuth/delta"
)

// old is an op that copies.
func old(from, n int) delta.Op { return delta.Op{Copy: true, From: from, N: n} }

// fresh is an op of new bytes.
func fresh(s string) delta.Op { return delta.Op{Bytes: []byte(s)} }

// of is a script.
func of(base, target int, ops ...delta.Op) delta.Script {
	return delta.Script{Base: base, Target: target, Ops: ops}
}

// long is a text of so many bytes.
func long(n int) string { return strings.Repeat("n", n) }

// times is one op so many times.
func times(n int, op delta.Op) []delta.Op {
	var l []delta.Op
	for range n {
		l = append(l, delta.Op{Copy: op.Copy, From: op.From, N: op.N, Bytes: bytes.Clone(op.Bytes)})
	}
	return l
}

// told is a script as words.
func told(s delta.Script) string {
	t := strconv.Itoa(s.Base) + ">" + strconv.Itoa(s.Target)
	for _, op := range s.Ops {
		if op.Copy || op.From != 0 || op.N != 0 {
			t += " " + strconv.FormatBool(op.Copy) + strconv.Itoa(op.From) + "+" + strconv.Itoa(op.N)
		}
		if len(op.Bytes) > 0 {
			t += " " + strconv.Quote(string(op.Bytes))
		}
		t += ";"
	}
	return t
}

// brief is the beginning of a text that may be long.
func brief(s string) string { return s[:min(len(s), 200)] }

// isZero asks whether nothing is told.
func isZero(s delta.Script) bool { return s.Base == 0 && s.Target == 0 && len(s.Ops) == 0 }

// made is one case of Check: a script, and what is wrong with it.
type made struct {
	what   string
	script delta.Script
	want   api.Errno
}

// right are scripts that may be.
var right = []made{
	{"nothing of nothing", of(0, 0), api.OK},
	{"nothing of a text", of(12, 0), api.OK},
	{"nothing of a text of 4000 bytes", of(4000, 0), api.OK},
	{"no ops that are a list", delta.Script{Base: 1, Ops: []delta.Op{}}, api.OK},
	{"the example", of(12, 12, old(0, 7), fresh("there")), api.OK},
	{"a copy of one byte", of(1, 1, old(0, 1)), api.OK},
	{"a copy of the last byte", of(12, 1, old(11, 1)), api.OK},
	{"a copy of all", of(4000, 4000, old(0, 4000)), api.OK},
	{"a copy with an empty list of bytes", of(1, 1, delta.Op{Copy: true, N: 1, Bytes: []byte{}}), api.OK},
	{"one new byte", of(0, 1, fresh("\x00")), api.OK},
	{"4000 new bytes", of(0, 4000, fresh(long(4000))), api.OK},
	{"copies that lie on one another", of(3, 9, old(0, 3), old(1, 2), old(0, 1), old(0, 3)), api.OK},
	{"copies that could be one", of(4, 4, old(0, 2), old(2, 2)), api.OK},
	{"new bytes that could be one op", of(0, 4, fresh("a"), fresh("bc"), fresh("d")), api.OK},
	{"4000 copies of a byte", of(1, 4000, times(4000, old(0, 1))...), api.OK},
	{"4000 ops of a new byte", of(4000, 4000, times(4000, fresh("x"))...), api.OK},
	{"parts of 127 and 128", of(300, 510, old(127, 127), old(128, 128), fresh(long(127)), fresh(long(128))), api.OK},
}

// wrong are scripts that may not be.
var wrong = []made{
	{"a base below 0", of(-1, 0), api.ErrArg},
	{"the least base", of(math.MinInt, 0), api.ErrArg},
	{"a base of 4001 bytes", of(4001, 0), api.ErrArg},
	{"a copy of a base of 4001 bytes", of(4001, 1, old(0, 1)), api.ErrArg},
	{"the greatest base", of(math.MaxInt, 0), api.ErrArg},
	{"a target below 0", of(0, -1), api.ErrArg},
	{"the least target", of(0, math.MinInt), api.ErrArg},
	{"a target of 4001 bytes", of(0, 4001, fresh(long(4001))), api.ErrArg},
	{"4001 bytes copied", of(4000, 4001, old(0, 4000), old(0, 1)), api.ErrArg},
	{"the greatest target", of(0, math.MaxInt), api.ErrArg},
	{"a target, and no ops", of(0, 1), api.ErrArg},
	{"a copy of nothing", of(5, 0, old(0, 0)), api.ErrArg},
	{"a copy of nothing among others", of(5, 5, old(0, 3), old(0, 0), old(0, 2)), api.ErrArg},
	{"a copy of nothing behind the end", of(5, 0, old(5, 0)), api.ErrArg},
	{"a copy of less than nothing", of(5, 0, old(0, -1)), api.ErrArg},
	{"a copy of less than nothing that makes up for one too many", of(5, 4, old(0, 5), old(1, -1)), api.ErrArg},
	{"a copy of the least number", of(5, 0, old(0, math.MinInt)), api.ErrArg},
	{"a copy of the greatest number", of(5, 5, old(0, math.MaxInt)), api.ErrArg},
	{"a copy from below 0 on", of(5, 1, old(-1, 1)), api.ErrArg},
	{"a copy from the least number on", of(5, 1, old(math.MinInt, 1)), api.ErrArg},
	{"a copy from below 0 on, and of more", of(5, 5, old(-1, 5)), api.ErrArg},
	{"a copy to one behind the end", of(5, 2, old(4, 2)), api.ErrArg},
	{"a copy of one too many", of(5, 6, old(0, 6)), api.ErrArg},
	{"a copy from the end on", of(5, 1, old(5, 1)), api.ErrArg},
	{"a copy of an empty base", of(0, 1, old(0, 1)), api.ErrArg},
	{"a copy from the greatest number on", of(5, 1, old(math.MaxInt, 1)), api.ErrArg},
	{"a copy whose end goes round", of(5, 5, old(math.MaxInt, math.MaxInt)), api.ErrArg},
	{"a copy whose end goes round to 4", of(5, 5, old(math.MaxInt, math.MinInt+5)), api.ErrArg},
	{"a copy with bytes", of(5, 1, delta.Op{Copy: true, N: 1, Bytes: []byte("x")}), api.ErrArg},
	{"a copy with as many bytes", of(5, 2, delta.Op{Copy: true, N: 2, Bytes: []byte("xy")}), api.ErrArg},
	{"an op of nothing", of(5, 0, delta.Op{}), api.ErrArg},
	{"an op of an empty list", of(5, 0, delta.Op{Bytes: []byte{}}), api.ErrArg},
	{"an op of nothing behind others", of(5, 3, old(0, 3), delta.Op{}), api.ErrArg},
	{"new bytes with a From", of(5, 1, delta.Op{From: 1, Bytes: []byte("x")}), api.ErrArg},
	{"new bytes with a From below 0", of(5, 1, delta.Op{From: -1, Bytes: []byte("x")}), api.ErrArg},
	{"new bytes with an N", of(5, 1, delta.Op{N: 1, Bytes: []byte("x")}), api.ErrArg},
	{"new bytes with an N below 0", of(5, 1, delta.Op{N: -1, Bytes: []byte("x")}), api.ErrArg},
	{"a copy that says it is none", of(5, 1, delta.Op{N: 1}), api.ErrArg},
	{"a copied byte too many", of(5, 4, old(0, 5)), api.ErrArg},
	{"a copied byte too few", of(5, 5, old(0, 4)), api.ErrArg},
	{"a new byte too many", of(5, 4, fresh("abcde")), api.ErrArg},
	{"a new byte too few", of(5, 5, fresh("abcd")), api.ErrArg},
	{"an op too many", of(5, 5, old(0, 5), fresh("x")), api.ErrArg},
	{"a copy too many", of(5, 5, old(0, 5), old(0, 1)), api.ErrArg},
	{"ops too few", of(5, 12, old(0, 5), fresh("x"), old(0, 5)), api.ErrArg},
	{"ops for a target of nothing", of(5, 0, old(0, 5)), api.ErrArg},
	{"the last of many ops", of(1, 4000, append(times(3999, old(0, 1)), old(1, 1))...), api.ErrArg},
}

// P9.1

func TestCheck(t *testing.T) {
	for _, x := range slices.Concat(right, wrong) {
		if e := delta.Check(x.script); e != x.want {
			t.Errorf("%s: %v, want %v", x.what, e, x.want)
		}
	}
}

// isRight is what the chapter calls right, of numbers that don't go round.
func isRight(s delta.Script) bool {
	ok := s.Base >= 0 && s.Base <= 4000 && s.Target >= 0 && s.Target <= 4000
	n := 0
	for _, op := range s.Ops {
		if op.Copy {
			ok = ok && op.N >= 1 && op.From >= 0 && op.From+op.N <= s.Base && len(op.Bytes) == 0
			n += op.N
		} else {
			ok = ok && len(op.Bytes) >= 1 && op.From == 0 && op.N == 0
			n += len(op.Bytes)
		}
	}
	return ok && n == s.Target
}

// someOps are ops of small numbers, right and wrong ones.
func someOps() []delta.Op {
	var l []delta.Op
	for _, isCopy := range []bool{true, false} {
		for from := -1; from <= 3; from++ {
			for n := -1; n <= 4; n++ {
				for _, s := range []string{"", "x", "xy"} {
					l = append(l, delta.Op{Copy: isCopy, From: from, N: n, Bytes: []byte(s)})
				}
			}
		}
	}
	return l
}

// TestCheckOfEachPair: all scripts of up to two small ops.
func TestCheckOfEachPair(t *testing.T) {
	ops := someOps()
	lists := [][]delta.Op{nil}
	for _, x := range ops {
		lists = append(lists, []delta.Op{x})
		for _, y := range ops {
			lists = append(lists, []delta.Op{x, y})
		}
	}
	for base := -1; base <= 3; base++ {
		for target := -1; target <= 5; target++ {
			for _, l := range lists {
				s := of(base, target, l...)
				want := api.ErrArg
				if isRight(s) {
					want = api.OK
				}
				if e := delta.Check(s); e != want {
					t.Fatalf("%s: %v, want %v", told(s), e, want)
				}
			}
		}
	}
}

// TestCheckOfEachLength: the limit is one of the base and of the target.
func TestCheckOfEachLength(t *testing.T) {
	for n := -100; n <= 4100; n++ {
		want := api.ErrArg
		if n >= 0 && n <= 4000 {
			want = api.OK
		}
		if e := delta.Check(of(n, 0)); e != want {
			t.Errorf("a base of %d: %v", n, e)
		}
		if n == 0 {
			continue
		}
		if e := delta.Check(of(0, n, fresh(long(max(n, 1))))); e != want {
			t.Errorf("a target of %d: %v", n, e)
		}
		if e := delta.Check(of(n, n, old(0, n))); e != want {
			t.Errorf("a copy of %d: %v", n, e)
		}
	}
}

func TestPutOfKnown(t *testing.T) {
	for _, x := range []struct {
		script delta.Script
		want   string
	}{
		{of(0, 0), "\x00\x00"},
		{of(127, 0), "\x7f\x00"},
		{of(128, 0), "\x80\x01\x00"},
		{of(4000, 0), "\xa0\x1f\x00"},
		{of(12, 12, old(0, 7), fresh("there")), "\x0c\x0c\x01\x00\x07\x00\x05there"},
		{of(12, 12, fresh("there"), old(5, 7)), "\x0c\x0c\x00\x05there\x01\x05\x07"},
		{of(300, 300, old(172, 128), old(0, 172)), "\xac\x02\xac\x02\x01\xac\x01\x80\x01\x01\x00\xac\x01"},
		{of(0, 2, fresh("\x00"), fresh("\x01")), "\x00\x02\x00\x01\x00\x00\x01\x01"},
		{of(0, 128, fresh(long(128))), "\x00\x80\x01\x00\x80\x01" + long(128)},
		{of(0, 4000, fresh(long(4000))), "\x00\xa0\x1f\x00\xa0\x1f" + long(4000)},
	} {
		if d, e := delta.Put(x.script); string(d) != x.want || e != api.OK {
			t.Errorf("%s: %q, %v", brief(told(x.script)), brief(string(d)), e)
		}
	}
}

// digits is a number of any size as bytes.
func digits(n int) string {
	if n < 128 {
		return string([]byte{byte(n)})
	}
	return string([]byte{byte(n%128) + 128}) + digits(n/128)
}

// put is a script as bytes, by the words of the chapter.
func put(s delta.Script) string {
	d := digits(s.Base) + digits(s.Target)
	for _, op := range s.Ops {
		if op.Copy {
			d += "\x01" + digits(op.From) + digits(op.N)
		} else {
			d += "\x00" + digits(len(op.Bytes)) + string(op.Bytes)
		}
	}
	return d
}

func TestPut(t *testing.T) {
	for _, x := range right {
		if d, e := delta.Put(x.script); string(d) != put(x.script) || e != api.OK {
			t.Errorf("%s: %q, %v", x.what, brief(string(d)), e)
		}
	}
	r := rand.New(rand.NewSource(1))
	for range 3000 {
		s := anyScript(r, r.Intn(4001), r.Intn(4001))
		if d, e := delta.Put(s); string(d) != put(s) || e != api.OK {
			t.Fatalf("%s: %q, %v", brief(told(s)), brief(string(d)), e)
		}
	}
}

func TestPutRefusesWhatCheckDoes(t *testing.T) {
	for _, x := range wrong {
		if d, e := delta.Put(x.script); len(d) != 0 || e != x.want {
			t.Errorf("%s: %q, %v, want %v", x.what, brief(string(d)), e, x.want)
		}
	}
}

// anyText is a text of so many bytes out of so many that differ.
func anyText(r *rand.Rand, n, letters int) []byte {
	b := make([]byte, n)
	for k := range b {
		b[k] = byte('a' + r.Intn(letters))
	}
	return b
}

// anyScript is a right script of a base and a target of so many bytes.
func anyScript(r *rand.Rand, base, target int) delta.Script {
	s := of(base, target)
	most := 1 + r.Intn(target+1)
	for left := target; left > 0; {
		n := min(left, 1+r.Intn(most))
		if base > 0 && r.Intn(3) > 0 {
			n = min(n, base)
			s.Ops = append(s.Ops, old(r.Intn(base-n+1), n))
		} else {
			s.Ops = append(s.Ops, fresh(string(anyText(r, n, 26))))
		}
		left -= n
	}
	return s
}

// P9.2

// cut is one case of Read: bytes, and what is wrong with them.
type cut struct {
	what string
	d    string
	want api.Errno
}

// nine are nine bytes of digits of noughts, behind each of which another one follows.
const nine = "\x80\x80\x80\x80\x80\x80\x80\x80\x80"

// refused are bytes that are no script, by the first of what is wrong.
func refused() []cut {
	l := []cut{
		{"nothing", "", api.ErrEnd},
		{"no target", "\x00", api.ErrEnd},
		{"half a target", "\x00\x80", api.ErrEnd},
		{"a kind 2", "\x02\x01\x02", api.ErrKind},
		{"a kind 255", "\x02\x01\xff", api.ErrKind},
		{"a kind 128, which as a number would be 0", "\x02\x01\x80\x00\x01a", api.ErrKind},
		{"a kind 2 behind what is whole", "\x00\x00\x02", api.ErrKind},
		{"a kind 2 ahead of what is not there", "\x00\x05\x02", api.ErrKind},
		{"a kind 2 behind a right op", "\x00\x02\x00\x01a\x02\x01a", api.ErrKind},
		{"a copy without a From", "\x05\x05\x01", api.ErrEnd},
		{"a copy without an N", "\x05\x05\x01\x00", api.ErrEnd},
		{"a copy of half an N", "\x05\x05\x01\x00\x80", api.ErrEnd},
		{"a copy of nothing", "\x02\x01\x01\x00\x00", api.ErrForm},
		{"a copy of nothing behind the end", "\x02\x01\x01\x05\x00", api.ErrForm},
		{"a copy of nothing from the end on", "\x02\x00\x01\x02\x00", api.ErrForm},
		{"a copy to one behind the end", "\x02\x02\x01\x01\x02", api.ErrBase},
		{"a copy from the end on", "\x02\x01\x01\x02\x01", api.ErrBase},
		{"a copy of an empty base", "\x00\x01\x01\x00\x01", api.ErrBase},
		{"a copy behind the end that is too long, too", "\x02\x00\x01\x02\x01", api.ErrBase},
		{"a copy behind the end, with a wrong kind behind it", "\x02\x01\x01\x02\x01\x07", api.ErrBase},
		{"a copy of 4000 from 4000 on", "\xa0\x1f\xa0\x1f\x01\xa0\x1f\xa0\x1f", api.ErrBase},
		{"new bytes without a number", "\x00\x01\x00", api.ErrEnd},
		{"new bytes of half a number", "\x00\x01\x00\x80", api.ErrEnd},
		{"no new bytes", "\x00\x00\x00\x00", api.ErrForm},
		{"no new bytes, ahead of the end", "\x00\x01\x00\x00", api.ErrForm},
		{"no new bytes, ahead of others", "\x00\x01\x00\x00\x00\x01a", api.ErrForm},
		{"a new byte too few", "\x00\x02\x00\x02a", api.ErrEnd},
		{"new bytes that are not there", "\x00\x02\x00\x02", api.ErrEnd},
		{"new bytes that are not there, and too many", "\x00\x01\x00\x02a", api.ErrEnd},
		{"a new byte too many", "\x00\x01\x00\x02ab", api.ErrLong},
		{"a new byte for nothing", "\x00\x00\x00\x01a", api.ErrLong},
		{"a copied byte too many", "\x02\x01\x01\x00\x02", api.ErrLong},
		{"a copied byte for nothing", "\x02\x00\x01\x00\x01", api.ErrLong},
		{"one op too many", "\x02\x02\x01\x00\x02\x01\x00\x01", api.ErrLong},
		{"too many, ahead of a wrong kind", "\x02\x01\x01\x00\x02\x07", api.ErrLong},
		{"too many, ahead of an op cut off", "\x02\x01\x01\x00\x02\x01", api.ErrLong},
		{"a wrong kind ahead of too many", "\x02\x01\x07\x01\x00\x02", api.ErrKind},
		{"too few", "\x05\x02\x01\x00\x01", api.ErrEnd},
		{"too few new bytes", "\x05\x03\x00\x02ab", api.ErrEnd},
		{"no ops", "\x05\x01", api.ErrEnd},
		{"no ops of 4000 bytes", "\x05\xa0\x1f", api.ErrEnd},
	}
	return append(l, badNumbers()...)
}

// badNumbers are bytes with a number that is wrong, in each place where one stands.
func badNumbers() []cut {
	bad := []cut{
		{"two bytes for a 0", "\x80\x00", api.ErrForm},
		{"two bytes for a 1", "\x81\x00", api.ErrForm},
		{"three bytes for 4000", "\xa0\x9f\x00", api.ErrForm},
		{"4001", "\xa1\x1f", api.ErrLong},
		{"2^14", "\x80\x80\x01", api.ErrLong},
		{"2^31", "\x80\x80\x80\x80\x08", api.ErrLong},
		{"2^32 and 1", "\x81\x80\x80\x80\x10", api.ErrLong},
		{"2^63", nine + "\x01", api.ErrLong},
		{"2^64 less 1", "\xff\xff\xff\xff\xff\xff\xff\xff\xff\x01", api.ErrLong},
		{"2^64", nine + "\x02", api.ErrForm},
		{"ten bytes, and no last one", nine + "\x80", api.ErrForm},
		{"ten bytes for a 0", nine + "\x00", api.ErrForm},
		{"nine bytes alone", nine, api.ErrEnd},
	}
	var l []cut
	for _, x := range bad {
		for place, ahead := range map[string]string{
			"as the base": "", "as the target": "\x05", "as a From": "\x05\x05\x01", "as an N": "\x05\x05\x01\x00",
			"as a number": "\x05\x05\x00", "as a second op's From": "\x05\x05\x01\x00\x01\x01", "as a second op's number": "\x05\x05\x00\x01a\x00",
		} {
			l = append(l, cut{x.what + " " + place, ahead + x.d, x.want})
			if x.want != api.ErrEnd {
				l = append(l, cut{x.what + " " + place + ", with bytes behind", ahead + x.d + "\x00\x00\x00", x.want})
			}
		}
		l = append(l, cut{x.what + " as a From behind which N is wrong, too", "\x05\x05\x01" + x.d + nine + "\x02", firstOf(x)})
		l = append(l, cut{"a From behind the end, and as an N " + x.what, "\x05\x05\x01\x06" + x.d, x.want})
	}
	return l
}

// firstOf is the error of a number behind which 2^64 follows: of one that is cut off the tenth byte is there then, and too great.
func firstOf(x cut) api.Errno {
	if x.want == api.ErrEnd {
		return api.ErrForm
	}
	return x.want
}

func TestReadRefuses(t *testing.T) {
	for _, x := range refused() {
		if s, e := delta.Read([]byte(x.d)); !isZero(s) || e != x.want {
			t.Errorf("%s: %s, %v, want %v", x.what, told(s), e, x.want)
		}
	}
}

func TestReadOfKnown(t *testing.T) {
	for _, x := range []struct {
		d    string
		want delta.Script
	}{
		{"\x00\x00", of(0, 0)},
		{"\x05\x00", of(5, 0)},
		{"\xa0\x1f\x00", of(4000, 0)},
		{"\x0c\x0c\x01\x00\x07\x00\x05there", of(12, 12, old(0, 7), fresh("there"))},
		{"\x02\x01\x01\x01\x01", of(2, 1, old(1, 1))},
		{"\x02\x02\x01\x00\x02", of(2, 2, old(0, 2))},
		{"\x00\x02\x00\x01\x00\x00\x01\x01", of(0, 2, fresh("\x00"), fresh("\x01"))},
		{"\x02\x04\x01\x00\x01\x01\x01\x01\x00\x01c\x00\x01d", of(2, 4, old(0, 1), old(1, 1), fresh("c"), fresh("d"))},
		{"\xac\x02\xac\x02\x01\xac\x01\x80\x01\x01\x00\xac\x01", of(300, 300, old(172, 128), old(0, 172))},
		{"\xa0\x1f\xa0\x1f\x01\x00\xa0\x1f", of(4000, 4000, old(0, 4000))},
		{"\x00\xa0\x1f\x00\xa0\x1f" + long(4000), of(0, 4000, fresh(long(4000)))},
	} {
		if s, e := delta.Read([]byte(x.d)); told(s) != told(x.want) || e != api.OK {
			t.Errorf("%q: %s, %v", brief(x.d), brief(told(s)), e)
		}
	}
}

func TestReadOfNothing(t *testing.T) {
	for _, d := range [][]byte{nil, {}} {
		if s, e := delta.Read(d); !isZero(s) || e != api.ErrEnd {
			t.Error(told(s), e)
		}
	}
}

// bytesLeft are bytes that readModel goes through.
type bytesLeft struct{ d string }

// number is a number of any size of at most 4000, and its error, by the words of chapter 1.
func (b *bytesLeft) number() (int, api.Errno) {
	n, unit := 0, 1
	for k := 0; ; k++ {
		if b.d == "" {
			return 0, api.ErrEnd
		}
		c := int(b.d[0])
		b.d = b.d[1:]
		if k == 9 && c > 1 || k > 0 && c == 0 {
			return 0, api.ErrForm
		}
		// Above 4000 it is too long, however much it is.
		n = min(n+c%128*unit, 4001)
		unit = min(unit*128, 1<<20)
		if c < 128 && n > 4000 {
			return 0, api.ErrLong
		}
		if c < 128 {
			return n, api.OK
		}
	}
}

// op is an op over a base of so many bytes, and its error.
func (b *bytesLeft) op(base int) (delta.Op, api.Errno) {
	kind := b.d[0]
	b.d = b.d[1:]
	if kind > 1 {
		return delta.Op{}, api.ErrKind
	}
	from, n := 0, 0
	var e api.Errno
	if kind == 1 {
		if from, e = b.number(); e != api.OK {
			return delta.Op{}, e
		}
	}
	if n, e = b.number(); e != api.OK {
		return delta.Op{}, e
	}
	if n == 0 {
		return delta.Op{}, api.ErrForm
	}
	if kind == 1 && from+n > base {
		return delta.Op{}, api.ErrBase
	}
	if kind == 1 {
		return old(from, n), api.OK
	}
	if len(b.d) < n {
		return delta.Op{}, api.ErrEnd
	}
	s := b.d[:n]
	b.d = b.d[n:]
	return fresh(s), api.OK
}

// readModel is what Read says, by the words of the chapter.
func readModel(d string) (delta.Script, api.Errno) {
	b := &bytesLeft{d}
	base, e := b.number()
	if e != api.OK {
		return delta.Script{}, e
	}
	target, e := b.number()
	if e != api.OK {
		return delta.Script{}, e
	}
	s := of(base, target)
	for n := 0; b.d != "" || n < target; {
		if b.d == "" {
			return delta.Script{}, api.ErrEnd
		}
		op, e := b.op(base)
		if e != api.OK {
			return delta.Script{}, e
		}
		n += op.N + len(op.Bytes)
		if n > target {
			return delta.Script{}, api.ErrLong
		}
		s.Ops = append(s.Ops, op)
	}
	return s, api.OK
}

// asModel asks whether Read says what the model does, and whether what is read is right, and put as the same bytes.
func asModel(t *testing.T, d string) api.Errno {
	t.Helper()
	want, f := readModel(d)
	s, e := delta.Read([]byte(d))
	if e != f || told(s) != told(want) {
		t.Fatalf("%q: %s, %v, want %s, %v", brief(d), brief(told(s)), e, brief(told(want)), f)
	}
	if e != api.OK {
		return e
	}
	if again, e := delta.Put(s); string(again) != d || e != api.OK || delta.Check(s) != api.OK {
		t.Fatalf("%q: put as %q, %v", brief(d), brief(string(again)), e)
	}
	return e
}

// readable are scripts as bytes, of many kinds.
func readable() []string {
	var l []string
	for _, x := range right {
		if d := put(x.script); len(d) < 600 {
			l = append(l, d)
		}
	}
	r := rand.New(rand.NewSource(2))
	for range 60 {
		l = append(l, put(anyScript(r, r.Intn(300), r.Intn(40))))
	}
	return l
}

// TestReadOfSpoilt: each cut, and each byte in each place.
func TestReadOfSpoilt(t *testing.T) {
	for _, d := range readable() {
		for k := range len(d) {
			asModel(t, d[:k])
			asModel(t, d[k:])
			b := []byte(d)
			for c := range 256 {
				b[k] = byte(c)
				asModel(t, string(b))
			}
		}
		for c := range 256 {
			asModel(t, d+string([]byte{byte(c)}))
		}
	}
}

// TestReadOfAny: bytes of any kind, most of them small, as marks and numbers are.
func TestReadOfAny(t *testing.T) {
	r := rand.New(rand.NewSource(3))
	seen := map[api.Errno]int{}
	for range 400000 {
		b := make([]byte, r.Intn(12))
		for k := range b {
			b[k] = byte(r.Intn(3))
			if r.Intn(6) == 0 {
				b[k] = byte(r.Intn(256))
			}
		}
		seen[asModel(t, string(b))]++
	}
	for _, e := range []api.Errno{api.OK, api.ErrEnd, api.ErrForm, api.ErrLong, api.ErrKind, api.ErrBase} {
		if seen[e] < 100 {
			t.Errorf("%v: %d of them", e, seen[e])
		}
	}
}

// TestReadOfSmall: all bytes of up to six small numbers.
func TestReadOfSmall(t *testing.T) {
	var all func(d string, n int)
	all = func(d string, n int) {
		asModel(t, d)
		for c := byte(0); c < 4 && n > 0; c++ {
			all(d+string([]byte{c}), n-1)
		}
		if n > 0 {
			all(d+"\x81", n-1)
		}
	}
	all("", 7)
}

// TestReadEnds: it gives up at the first byte too many, and doesn't go on.
func TestReadEnds(t *testing.T) {
	if _, e := delta.Read([]byte("\x01\x05" + strings.Repeat("\x01\x00\x01", 1<<20))); e != api.ErrLong {
		t.Error(e)
	}
	if s, e := delta.Read([]byte("\x01\xa0\x1f" + strings.Repeat("\x01\x00\x01", 4000))); len(s.Ops) != 4000 || e != api.OK {
		t.Error(len(s.Ops), e)
	}
}

// P9.3

func TestMakeOfKnown(t *testing.T) {
	for _, x := range []struct {
		what, base, target string
		want               delta.Script
	}{
		{"the example", "hello, world", "hello, there", of(12, 12, old(0, 7), fresh("there"))},
		{"nothing of nothing", "", "", of(0, 0)},
		{"nothing of a text", "hello", "", of(5, 0)},
		{"a text of nothing", "", "hello, there", of(0, 12, fresh("hello, there"))},
		{"six bytes", "abcdef", "abcdef", of(6, 6, old(0, 6))},
		{"five bytes", "abcde", "abcde", of(5, 5, fresh("abcde"))},
		{"five like bytes of a longer base", "abcdef", "abcde", of(6, 5, fresh("abcde"))},
		{"five like bytes of a longer target", "abcde", "abcdef", of(5, 6, fresh("abcdef"))},
		{"five like bytes, and another one", "abcdef", "abcdex", of(6, 6, fresh("abcdex"))},
		{"six at the end of the base", "xxabcdef", "abcdef", of(8, 6, old(2, 6))},
		{"six at the end of the target", "abcdef", "xxabcdef", of(6, 8, fresh("xx"), old(0, 6))},
		{"six amid others", "xxabcdefyy", "uuabcdefww", of(10, 10, fresh("uu"), old(2, 6), fresh("ww"))},
		{"the first of like places", "abcdef-abcdef", "abcdef", of(13, 6, old(0, 6))},
		{"the first of like places, of all that go on otherwise", "abcdef1abcdef2abcdef3", "abcdef4", of(21, 7, old(0, 6), fresh("4"))},
		{"the longest, not the first", "abcdef-abcdefg", "abcdefg", of(14, 7, old(7, 7))},
		{"the longest, not the last", "abcdef-abcdefgh-abcdefg", "abcdefghi", of(23, 9, old(7, 8), fresh("i"))},
		{"the first of the longest", "abcdef-abcdefg-abcdefg", "abcdefgh", of(22, 8, old(7, 7), fresh("h"))},
		{"places that lie on one another", "aaaaaaaaa", "aaaaaaa", of(9, 7, old(0, 7))},
		{"a base that is too short to go on", "aaaaaaa", "aaaaaaaaaaaaaaa", of(7, 15, old(0, 7), old(0, 7), fresh("a"))},
		{"the longest now, though another one would do better later", "abcdef bcdefghijk", "abcdefghijk", of(17, 11, old(0, 6), fresh("ghijk"))},
		{"what goes on in the middle", "abcdefghijkl", "ghijklabcdef", of(12, 12, old(6, 6), old(0, 6))},
		{"copies side by side", "abcdef-ghijkl", "abcdefghijkl", of(13, 12, old(0, 6), old(7, 6))},
		{"the same part twice", "abcdef", "abcdefabcdef", of(6, 12, old(0, 6), old(0, 6))},
		{"bytes of any kind", "\x00\xff\x00\xff\n\x80zz", "\x00\xff\x00\xff\n\x80", of(8, 6, old(0, 6))},
		{"noughts", "\x00\x00\x00\x00\x00\x00", "\x00\x00\x00\x00\x00", of(6, 5, fresh("\x00\x00\x00\x00\x00"))},
		{"all of a long text", long(4000), long(4000), of(4000, 4000, old(0, 4000))},
	} {
		if s, e := delta.Make([]byte(x.base), []byte(x.target)); told(s) != told(x.want) || e != api.OK {
			t.Errorf("%s: %s, %v, want %s", x.what, told(s), e, told(x.want))
		}
	}
}

func TestMakeRefuses(t *testing.T) {
	for _, n := range []int{0, 1, 3999, 4000, 4001, 1 << 20} {
		for _, m := range []int{0, 1, 3999, 4000, 4001, 1 << 20} {
			s, e := delta.Make([]byte(long(n)), []byte(long(m)))
			if n > 4000 || m > 4000 {
				if !isZero(s) || e != api.ErrLong {
					t.Errorf("%d, %d: %s, %v", n, m, brief(told(s)), e)
				}
			} else if s.Base != n || s.Target != m || delta.Check(s) != api.OK || e != api.OK {
				t.Errorf("%d, %d: %s, %v", n, m, brief(told(s)), e)
			}
		}
	}
}

// makeModel is what Make says, by the words of the chapter: each place of the base is tried.
func makeModel(base, target []byte) delta.Script {
	s := of(len(base), len(target))
	for at := 0; at < len(target); {
		from, n := 0, 0
		for k := range base {
			m := 0
			for k+m < len(base) && at+m < len(target) && base[k+m] == target[at+m] {
				m++
			}
			if m > n {
				from, n = k, m
			}
		}
		last := len(s.Ops) - 1
		switch {
		case n >= 6:
			s.Ops = append(s.Ops, old(from, n))
			at += n - 1
		case last >= 0 && !s.Ops[last].Copy:
			s.Ops[last].Bytes = append(s.Ops[last].Bytes, target[at])
		default:
			s.Ops = append(s.Ops, fresh(string(target[at:at+1])))
		}
		at++
	}
	return s
}

// makes asks whether Make says what the model does, and whether the target comes of it.
func makes(t *testing.T, base, target []byte) delta.Script {
	t.Helper()
	s, e := delta.Make(base, target)
	if want := makeModel(base, target); told(s) != told(want) || e != api.OK {
		t.Fatalf("%q of %q: %s, %v, want %s", brief(string(target)), brief(string(base)), brief(told(s)), e, brief(told(want)))
	}
	if e := delta.Check(s); e != api.OK {
		t.Fatalf("%q of %q: %s, %v", brief(string(target)), brief(string(base)), brief(told(s)), e)
	}
	if b, e := delta.Apply(base, s); !bytes.Equal(b, target) || e != api.OK {
		t.Fatalf("%q of %q: %q, %v", brief(string(target)), brief(string(base)), brief(string(b)), e)
	}
	return s
}

// patched is a text made of parts of another one and of new ones.
func patched(r *rand.Rand, base []byte, n, letters int) []byte {
	var b []byte
	for len(b) < n {
		if len(base) > 0 && r.Intn(3) > 0 {
			from := r.Intn(len(base))
			b = append(b, base[from:from+min(1+r.Intn(20), len(base)-from)]...)
		} else {
			b = append(b, anyText(r, 1+r.Intn(8), letters)...)
		}
	}
	return b[:n]
}

func TestMake(t *testing.T) {
	r := rand.New(rand.NewSource(4))
	copies, news := 0, 0
	for k := range 20000 {
		letters := 1 + k%4
		base := anyText(r, r.Intn(60), letters)
		target := patched(r, base, r.Intn(60), letters)
		for _, op := range makes(t, base, target).Ops {
			if op.Copy {
				copies++
			} else {
				news++
			}
		}
	}
	if copies < 10000 || news < 10000 {
		t.Error(copies, news)
	}
}

// TestMakeOfLong: texts as long as may be, those among them where most places are to be looked at.
func TestMakeOfLong(t *testing.T) {
	r := rand.New(rand.NewSource(5))
	for k := range 30 {
		base := anyText(r, 3000+r.Intn(1001), 1+k)
		makes(t, base, patched(r, base, 3000+r.Intn(1001), 1+k))
	}
	same, most := []byte(long(4000)), []byte(long(3999)+"x")
	half, steps := []byte(long(2000)+"x"+long(1999)), bytes.Repeat([]byte("aaaaaaab"), 500)
	for _, x := range [][]byte{same, most, half, steps} {
		for _, y := range [][]byte{same, most, half, steps, same[:1999], nil} {
			makes(t, x, y)
			makes(t, y, x)
		}
	}
}

// TestMakeOfEachLength: how many like bytes it needs, wherever they stand.
func TestMakeOfEachLength(t *testing.T) {
	text := "abcdefghijklmnop"
	for n := range len(text) + 1 {
		for at := range len(text) - n + 1 {
			part := text[at : at+n]
			for _, ends := range [][2]string{{"", ""}, {"1", ""}, {"", "2"}, {"3", "4"}, {"55555", "66666"}} {
				s := makes(t, []byte(text), []byte(ends[0]+part+ends[1]))
				copied := slices.ContainsFunc(s.Ops, func(op delta.Op) bool { return op.Copy && op.From == at && op.N == n })
				if copied != (n >= 6) {
					t.Errorf("%q: %s", part, told(s))
				}
			}
		}
	}
}

// P9.4: Apply

func TestApplyOfKnown(t *testing.T) {
	for _, x := range []struct {
		base   string
		script delta.Script
		want   string
	}{
		{"", of(0, 0), ""},
		{"abc", of(3, 0), ""},
		{"abc", of(3, 3, old(0, 3)), "abc"},
		{"abc", of(3, 3, old(2, 1), old(1, 1), old(0, 1)), "cba"},
		{"abc", of(3, 6, old(1, 2), old(0, 2), old(1, 2)), "bcabbc"},
		{"abc", of(3, 4, fresh("x"), old(1, 1), fresh("yz")), "xbyz"},
		{"", of(0, 2, fresh("\x00"), fresh("\xff")), "\x00\xff"},
		{"hello, world", of(12, 12, old(0, 7), fresh("there")), "hello, there"},
	} {
		if b, e := delta.Apply([]byte(x.base), x.script); string(b) != x.want || e != api.OK {
			t.Errorf("%s of %q: %q, %v", told(x.script), x.base, b, e)
		}
	}
}

// laid is what a script makes of a base, op by op.
func laid(base string, s delta.Script) string {
	target := ""
	for _, op := range s.Ops {
		if op.Copy {
			target += base[op.From : op.From+op.N]
		}
		target += string(op.Bytes)
	}
	return target
}

func TestApply(t *testing.T) {
	r := rand.New(rand.NewSource(6))
	for _, x := range right {
		base := string(anyText(r, x.script.Base, 26))
		if b, e := delta.Apply([]byte(base), x.script); string(b) != laid(base, x.script) || e != api.OK {
			t.Errorf("%s: %q, %v", x.what, brief(string(b)), e)
		}
	}
	for range 2000 {
		base := string(anyText(r, r.Intn(200), 26))
		s := anyScript(r, len(base), r.Intn(200))
		if b, e := delta.Apply([]byte(base), s); string(b) != laid(base, s) || e != api.OK {
			t.Fatalf("%s: %q, %v", told(s), b, e)
		}
	}
}

func TestApplyRefuses(t *testing.T) {
	for _, x := range wrong {
		for _, n := range []int{0, 1, 5, min(max(x.script.Base, 0), 4001)} {
			if b, e := delta.Apply([]byte(long(n)), x.script); len(b) != 0 || e != x.want {
				t.Errorf("%s: %q, %v, want %v", x.what, brief(string(b)), e, x.want)
			}
		}
	}
	for _, x := range right {
		for _, n := range []int{0, 1, x.script.Base - 1, x.script.Base + 1, 4000, 4001, 1 << 20} {
			if n < 0 || n == x.script.Base {
				continue
			}
			if b, e := delta.Apply([]byte(long(n)), x.script); len(b) != 0 || e != api.ErrBase {
				t.Errorf("%s of %d bytes: %q, %v", x.what, n, brief(string(b)), e)
			}
		}
	}
}

// P9.4: Then

func TestThenOfKnown(t *testing.T) {
	hello := of(12, 12, old(0, 7), fresh("there"))
	mixed := of(9, 9, old(0, 3), fresh("xyz"), old(5, 3))
	for _, x := range []struct {
		what string
		a, b delta.Script
		want delta.Script
	}{
		{"nothing of nothing", of(0, 0), of(0, 0), of(0, 0)},
		{"nothing of what there is", hello, of(12, 0), of(12, 0)},
		{"new bytes alone", hello, of(12, 2, fresh("ab")), of(12, 2, fresh("ab"))},
		{"new bytes of nothing", of(7, 0), of(0, 2, fresh("a"), fresh("b")), of(7, 2, fresh("a"), fresh("b"))},
		{"all of it", hello, of(12, 12, old(0, 12)), of(12, 12, old(0, 7), fresh("there"))},
		{"a part of each", hello, of(12, 4, old(5, 4)), of(12, 4, old(5, 2), fresh("th"))},
		{"amid a copy", mixed, of(9, 1, old(1, 1)), of(9, 1, old(1, 1))},
		{"amid new bytes", mixed, of(9, 1, old(4, 1)), of(9, 1, fresh("y"))},
		{"amid a copy from further on", mixed, of(9, 1, old(7, 1)), of(9, 1, old(6, 1))},
		{"just one op", mixed, of(9, 3, old(3, 3)), of(9, 3, fresh("xyz"))},
		{"just the first op", mixed, of(9, 3, old(0, 3)), of(9, 3, old(0, 3))},
		{"just the last op", mixed, of(9, 3, old(6, 3)), of(9, 3, old(5, 3))},
		{"the end of one, the beginning of the next", mixed, of(9, 2, old(2, 2)), of(9, 2, old(2, 1), fresh("x"))},
		{"over three", mixed, of(9, 5, old(2, 5)), of(9, 5, old(2, 1), fresh("xyz"), old(5, 1))},
		{"the last byte, then the first", mixed, of(9, 2, old(8, 1), old(0, 1)), of(9, 2, old(7, 1), old(0, 1))},
		{"one part twice", mixed, of(9, 4, old(3, 2), old(3, 2)), of(9, 4, fresh("xy"), fresh("xy"))},
		{"new bytes behind new ones", mixed, of(9, 4, fresh("a"), old(3, 1), fresh("bc")), of(9, 4, fresh("a"), fresh("x"), fresh("bc"))},
		{"copies that follow one another", of(4, 4, old(0, 2), old(2, 2)), of(4, 4, old(0, 4)), of(4, 4, old(0, 2), old(2, 2))},
		{"copies that b cuts", of(4, 4, old(0, 4)), of(4, 4, old(0, 2), old(2, 2)), of(4, 4, old(0, 2), old(2, 2))},
		{"new bytes in several ops", of(0, 4, fresh("a"), fresh("bc"), fresh("d")), of(4, 3, old(1, 3)), of(0, 3, fresh("bc"), fresh("d"))},
	} {
		if s, e := delta.Then(x.a, x.b); told(s) != told(x.want) || e != api.OK {
			t.Errorf("%s: %s, %v, want %s", x.what, told(s), e, told(x.want))
		}
	}
}

// source is where a byte of a's target is from: which of a's ops lays it, and as which of its bytes.
type source struct{ op, at int }

// thenModel is what Then says, by the words of the chapter: byte by byte, and what one of a's ops lays is kept together as far as one copy of b's goes.
func thenModel(a, b delta.Script) delta.Script {
	var from []source
	for k, op := range a.Ops {
		for at := range op.N + len(op.Bytes) {
			from = append(from, source{k, at})
		}
	}
	s := of(a.Base, b.Target)
	for _, op := range b.Ops {
		if !op.Copy {
			s.Ops = append(s.Ops, fresh(string(op.Bytes)))
			continue
		}
		for k := op.From; k < op.From+op.N; k++ {
			x := a.Ops[from[k].op]
			begins := k == op.From || from[k].op != from[k-1].op
			switch last := len(s.Ops) - 1; {
			case begins && x.Copy:
				s.Ops = append(s.Ops, old(x.From+from[k].at, 1))
			case begins:
				s.Ops = append(s.Ops, fresh(string(x.Bytes[from[k].at:from[k].at+1])))
			case x.Copy:
				s.Ops[last].N++
			default:
				s.Ops[last].Bytes = append(s.Ops[last].Bytes, x.Bytes[from[k].at])
			}
		}
	}
	return s
}

func TestThen(t *testing.T) {
	r := rand.New(rand.NewSource(7))
	for range 20000 {
		base := anyText(r, r.Intn(40), 26)
		a := anyScript(r, len(base), r.Intn(40))
		b := anyScript(r, a.Target, r.Intn(60))
		s, e := delta.Then(a, b)
		if want := thenModel(a, b); told(s) != told(want) || e != api.OK || delta.Check(s) != api.OK {
			t.Fatalf("%s, then %s: %s, %v, want %s", told(a), told(b), told(s), e, told(want))
		}
		if got, want := laid(string(base), s), laid(laid(string(base), a), b); got != want {
			t.Fatalf("%s, then %s: %q, want %q", told(a), told(b), got, want)
		}
	}
}

// TestThenOfLong: scripts of as many ops as may be.
func TestThenOfLong(t *testing.T) {
	r := rand.New(rand.NewSource(8))
	bytewise := of(4000, 4000)
	for k := range 4000 {
		bytewise.Ops = append(bytewise.Ops, []delta.Op{old(3999-k, 1), fresh("x")}[k%2])
	}
	whole := of(4000, 4000, old(0, 4000))
	for _, a := range []delta.Script{bytewise, whole, anyScript(r, 4000, 4000)} {
		for _, b := range []delta.Script{bytewise, whole, anyScript(r, 4000, 4000)} {
			s, e := delta.Then(a, b)
			if want := thenModel(a, b); told(s) != told(want) || e != api.OK || delta.Check(s) != api.OK {
				t.Errorf("%s, then %s: %s, %v", brief(told(a)), brief(told(b)), brief(told(s)), e)
			}
		}
	}
}

func TestThenRefuses(t *testing.T) {
	for _, x := range wrong {
		for _, y := range right {
			if s, e := delta.Then(x.script, y.script); !isZero(s) || e != x.want {
				t.Errorf("%s, then %s: %s, %v", x.what, y.what, brief(told(s)), e)
			}
			if s, e := delta.Then(y.script, x.script); !isZero(s) || e != x.want {
				t.Errorf("%s, then %s: %s, %v", y.what, x.what, brief(told(s)), e)
			}
		}
	}
	for _, x := range right {
		for _, y := range right {
			s, e := delta.Then(x.script, y.script)
			if x.script.Target == y.script.Base {
				if e != api.OK || s.Base != x.script.Base || s.Target != y.script.Target {
					t.Errorf("%s, then %s: %s, %v", x.what, y.what, brief(told(s)), e)
				}
			} else if !isZero(s) || e != api.ErrBase {
				t.Errorf("%s, then %s: %s, %v", x.what, y.what, brief(told(s)), e)
			}
		}
	}
}

// P9.5

// TestThereAndBack: Put is read as the script, also where it is no list, or an empty one.
func TestThereAndBack(t *testing.T) {
	r := rand.New(rand.NewSource(9))
	l := slices.Clone(right)
	for range 3000 {
		l = append(l, made{"any", anyScript(r, r.Intn(4001), r.Intn(4001)), api.OK})
	}
	for _, x := range l {
		d, e := delta.Put(x.script)
		s, f := delta.Read(d)
		if told(s) != told(x.script) || e != api.OK || f != api.OK {
			t.Fatalf("%s: %s, %v, %v", x.what, brief(told(s)), e, f)
		}
	}
}

// TestThenIsOneBehindTheOther: over three texts, each made of the one before.
func TestThenIsOneBehindTheOther(t *testing.T) {
	r := rand.New(rand.NewSource(10))
	for k := range 2000 {
		letters := 1 + k%5
		x := anyText(r, r.Intn(300), letters)
		y := patched(r, x, r.Intn(300), letters)
		z := patched(r, y, r.Intn(300), letters)
		a, _ := delta.Make(x, y)
		b, _ := delta.Make(y, z)
		s, e := delta.Then(a, b)
		if got, f := delta.Apply(x, s); !bytes.Equal(got, z) || e != api.OK || f != api.OK {
			t.Fatalf("%s, then %s: %s, %v, %v", told(a), told(b), told(s), e, f)
		}
	}
}

// R3: nothing is changed, kept or shared

// roomy is a text with spare room behind it.
func roomy(s string) []byte { return append([]byte(s), "spare room"...)[:len(s)] }

// isWhole asks whether a roomy text and its spare room are as they were.
func isWhole(b []byte, s string) bool { return string(b[:cap(b)])[:len(s)+10] == s+"spare room" }

// roomyScript is a script whose lists have spare room, with an op in that of the ops.
func roomyScript(base, target int, ops ...delta.Op) delta.Script {
	s := of(base, target)
	for _, op := range ops {
		if !op.Copy {
			op.Bytes = roomy(string(op.Bytes))
		}
		s.Ops = append(s.Ops, op)
	}
	s.Ops = append(s.Ops, old(77, 77))[:len(ops)]
	return s
}

// scriptIsWhole asks whether a roomy script is as it was.
func scriptIsWhole(s, was delta.Script) bool {
	for _, op := range s.Ops {
		if !op.Copy && !isWhole(op.Bytes, string(op.Bytes)) {
			return false
		}
	}
	spare := s.Ops[:len(s.Ops)+1][len(s.Ops)]
	return told(s) == told(was) && spare.Copy && spare.From == 77 && spare.N == 77
}

func TestNothingHandedInIsChanged(t *testing.T) {
	ops := []delta.Op{old(0, 7), fresh("there"), old(3, 4), fresh("xy")}
	was := of(12, 18, ops...)
	more := []delta.Op{old(5, 9), fresh("ab"), old(6, 2)}
	a, b := roomyScript(12, 18, ops...), roomyScript(18, 13, more...)
	base, target, d := roomy("hello, world"), roomy("hello, there"), roomy(put(was))
	delta.Check(a)
	delta.Put(a)
	delta.Read(d)
	delta.Make(base, target)
	delta.Apply(base, a)
	delta.Then(a, b)
	if !scriptIsWhole(a, was) || !scriptIsWhole(b, of(18, 13, more...)) {
		t.Error(told(a), told(b))
	}
	if !isWhole(base, "hello, world") || !isWhole(target, "hello, there") || !isWhole(d, put(was)) {
		t.Errorf("%q, %q, %q", base, target, d)
	}
}

// overwrite changes a text, and its spare room.
func overwrite(b []byte) {
	b = b[:cap(b)]
	for k := range b {
		b[k] = '#'
	}
}

// overwriteScript changes a script, and its spare room.
func overwriteScript(s delta.Script) {
	for k := range s.Ops {
		overwrite(s.Ops[k].Bytes)
	}
	ops := s.Ops[:cap(s.Ops)]
	for k := range ops {
		ops[k] = delta.Op{From: -1}
	}
}

func TestNothingHandedInIsKept(t *testing.T) {
	a := roomyScript(12, 18, old(0, 7), fresh("there"), old(3, 4), fresh("xy"))
	b := roomyScript(18, 13, old(5, 9), fresh("ab"), old(6, 2))
	base, target := roomy("hello, world"), roomy("xhello, there")
	d := roomy(put(a))
	bytesOf, _ := delta.Put(a)
	read, _ := delta.Read(d)
	makes, _ := delta.Make(base, target)
	applied, _ := delta.Apply(base, a)
	then, _ := delta.Then(a, b)
	now := []string{string(bytesOf), told(read), told(makes), string(applied), told(then)}
	overwriteScript(a)
	overwriteScript(b)
	overwrite(base)
	overwrite(target)
	overwrite(d)
	if later := []string{string(bytesOf), told(read), told(makes), string(applied), told(then)}; !slices.Equal(now, later) {
		t.Errorf("%q, then %q", now, later)
	}
}

// TestAnswersShareNothing: each list of an answer is changed, with its spare room, and grows, and all others are as they were, those of a second answer, too.
func TestAnswersShareNothing(t *testing.T) {
	a := of(12, 18, old(0, 7), fresh("there"), old(3, 4), fresh("xy"))
	b := of(18, 15, fresh("ab"), old(6, 4), old(6, 4), old(16, 2), fresh("c"), fresh("d"), old(15, 1))
	for what, answer := range map[string]func() delta.Script{
		"Read": func() delta.Script { s, _ := delta.Read([]byte(put(b))); return s },
		"Make": func() delta.Script {
			s, _ := delta.Make([]byte("abcdef"), []byte("1abcdef2abcdef345abcdef"))
			return s
		},
		"Then": func() delta.Script { s, _ := delta.Then(a, b); return s },
	} {
		want := answer()
		if len(want.Ops) < 5 {
			t.Error(what, told(want))
		}
		for k := range want.Ops {
			s, other := answer(), answer()
			grown := append(s.Ops[k].Bytes, long(20)...)
			overwrite(grown)
			overwrite(s.Ops[k].Bytes)
			s.Ops[k] = want.Ops[k]
			if told(s) != told(want) || told(other) != told(want) {
				t.Errorf("%s, op %d: %s, %s", what, k, told(s), told(other))
			}
			overwriteScript(s)
			if told(other) != told(answer()) {
				t.Errorf("%s, op %d: %s", what, k, told(other))
			}
			want = answer()
		}
	}
}

func TestBytesAnsweredShareNothing(t *testing.T) {
	base := []byte("hello, world")
	s := of(12, 12, old(0, 12))
	b, _ := delta.Apply(base, s)
	c, _ := delta.Apply(base, s)
	overwrite(b)
	if string(base) != "hello, world" || string(c) != "hello, world" {
		t.Errorf("%q, %q", base, c)
	}
	p, _ := delta.Put(s)
	q, _ := delta.Put(s)
	overwrite(p)
	if string(q) != put(s) {
		t.Errorf("%q", q)
	}
}
