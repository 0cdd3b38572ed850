package octet_test

import (
	"bytes"
	"math"
	"strings"
	"testing"

	"sleuth/api"
	"sleuth/octet"
)

const most = math.MaxUint64

// nine is the digits that a number of ten begins with, so that what follows is its tenth.
const nine = "\x80\x80\x80\x80\x80\x80\x80\x80\x80"

// numbers of any size, with their bytes.
var numbers = []struct {
	n uint64
	b string
}{
	{0, "\x00"},
	{1, "\x01"},
	{127, "\x7f"},
	{128, "\x80\x01"},
	{255, "\xff\x01"},
	{256, "\x80\x02"},
	{300, "\xac\x02"},
	{16383, "\xff\x7f"},
	{16384, "\x80\x80\x01"},
	{1<<32 - 1, "\xff\xff\xff\xff\x0f"},
	{1 << 32, "\x80\x80\x80\x80\x10"},
	{1<<63 - 1, "\xff\xff\xff\xff\xff\xff\xff\xff\x7f"},
	{1 << 63, nine + "\x01"},
	{most, "\xff\xff\xff\xff\xff\xff\xff\xff\xff\x01"},
}

// told is what a call tells of a reader.
type told struct {
	err      api.Errno
	at, left int
}

func state(r *octet.Reader) told { return told{r.Err(), r.At(), r.Left()} }

// spent has each reading call tell its zero value, and go nowhere.
func spent(t *testing.T, name string, r *octet.Reader) {
	t.Helper()
	was := state(r)
	if c := r.Byte(); c != 0 {
		t.Errorf("%s: Byte: %d", name, c)
	}
	if n := r.U32(); n != 0 {
		t.Errorf("%s: U32: %d", name, n)
	}
	if n := r.U64(); n != 0 {
		t.Errorf("%s: U64: %d", name, n)
	}
	if n := r.Var(most); n != 0 {
		t.Errorf("%s: Var: %d", name, n)
	}
	if s := r.Text(math.MaxInt); s != "" {
		t.Errorf("%s: Text: %q", name, s)
	}
	for _, n := range []int{-1, 0, 1} {
		if p := r.Raw(n); len(p) != 0 {
			t.Errorf("%s: Raw(%d): %x", name, n, p)
		}
	}
	if r.End() != was.err {
		t.Errorf("%s: End: %d, Err: %d", name, r.End(), was.err)
	}
	if state(r) != was {
		t.Errorf("%s: %v became %v", name, was, state(r))
	}
}

// P1.1

func TestWriterLays(t *testing.T) {
	long := strings.Repeat("x", 128)
	for _, x := range []struct {
		name string
		lay  func(*octet.Writer)
		want string
	}{
		{"nothing", func(w *octet.Writer) {}, ""},
		{"Byte 0", func(w *octet.Writer) { w.Byte(0) }, "\x00"},
		{"Byte 255", func(w *octet.Writer) { w.Byte(255) }, "\xff"},
		{"U32 0", func(w *octet.Writer) { w.U32(0) }, "\x00\x00\x00\x00"},
		{"U32", func(w *octet.Writer) { w.U32(0x01020304) }, "\x01\x02\x03\x04"},
		{"U32 most", func(w *octet.Writer) { w.U32(math.MaxUint32) }, "\xff\xff\xff\xff"},
		{"U64 0", func(w *octet.Writer) { w.U64(0) }, "\x00\x00\x00\x00\x00\x00\x00\x00"},
		{"U64", func(w *octet.Writer) { w.U64(0x0102030405060708) }, "\x01\x02\x03\x04\x05\x06\x07\x08"},
		{"U64 most", func(w *octet.Writer) { w.U64(most) }, "\xff\xff\xff\xff\xff\xff\xff\xff"},
		{"Text none", func(w *octet.Writer) { w.Text("") }, "\x00"},
		{"Text", func(w *octet.Writer) { w.Text("ab") }, "\x02ab"},
		{"Text of any bytes", func(w *octet.Writer) { w.Text("\x00\xff\n") }, "\x03\x00\xff\n"},
		{"Text of 128", func(w *octet.Writer) { w.Text(long) }, "\x80\x01" + long},
		{"Raw none", func(w *octet.Writer) { w.Raw(nil) }, ""},
		{"Raw", func(w *octet.Writer) { w.Raw([]byte{0, 255, 10}) }, "\x00\xff\n"},
		{"Raw of 128", func(w *octet.Writer) { w.Raw([]byte(long)) }, long},
	} {
		w := octet.NewWriter()
		x.lay(w)
		if string(w.Bytes()) != x.want || w.Len() != len(x.want) {
			t.Errorf("%s: %x, Len %d, want %x", x.name, w.Bytes(), w.Len(), x.want)
		}
		w.Raw([]byte("|"))
		x.lay(w)
		if want := x.want + "|" + x.want; string(w.Bytes()) != want || w.Len() != len(want) {
			t.Errorf("%s twice: %x, Len %d, want %x", x.name, w.Bytes(), w.Len(), want)
		}
	}
}

func TestWriterLaysNumbersOfAnySize(t *testing.T) {
	for _, x := range numbers {
		w := octet.NewWriter()
		w.Var(x.n)
		if string(w.Bytes()) != x.b {
			t.Errorf("%d: %x, want %x", x.n, w.Bytes(), x.b)
		}
	}
}

func TestWriterSharesNoMemory(t *testing.T) {
	w := octet.NewWriter()
	p := []byte("abc|rest")[:3]
	w.Raw(p)
	p[0] = 'x'
	if string(w.Bytes()) != "abc" {
		t.Errorf("what was handed in is kept: %q", w.Bytes())
	}
	w.Raw(p)
	w.Byte('!')
	if string(p[:8]) != "xbc|rest" {
		t.Errorf("what was handed in is changed: %q", p[:8])
	}
	one, two := w.Bytes(), w.Bytes()
	for k := range one[:cap(one)] {
		one[:cap(one)][k] = '-'
	}
	w.Byte('?')
	if string(two) != "abcxbc!" || string(w.Bytes()) != "abcxbc!?" {
		t.Errorf("what was answered is shared: %q, %q", two, w.Bytes())
	}
	if string(one) != "-------" {
		t.Errorf("what was answered is laid into: %q", one)
	}
}

func TestWritersHaveNothingInCommon(t *testing.T) {
	a, b := octet.NewWriter(), octet.NewWriter()
	a.Text("a")
	b.Byte(9)
	if string(a.Bytes()) != "\x01a" || string(b.Bytes()) != "\x09" {
		t.Errorf("%x, %x", a.Bytes(), b.Bytes())
	}
}

// P1.2

func TestReaderReads(t *testing.T) {
	b := "\xfe" + "\xff\x00\x01\x02" + "\xff\x00\x01\x02\x03\x04\x05\x06" + "\xac\x02" + "\x03\x00\xff\n" + "\x00" + "raw"
	r := octet.NewReader([]byte(b))
	if c := r.Byte(); c != 0xfe || r.At() != 1 {
		t.Errorf("Byte: %x, at %d", c, r.At())
	}
	if n := r.U32(); n != 0xff000102 || r.At() != 5 {
		t.Errorf("U32: %x, at %d", n, r.At())
	}
	if n := r.U64(); n != 0xff00010203040506 || r.At() != 13 {
		t.Errorf("U64: %x, at %d", n, r.At())
	}
	if n := r.Var(300); n != 300 || r.At() != 15 {
		t.Errorf("Var: %d, at %d", n, r.At())
	}
	if s := r.Text(3); s != "\x00\xff\n" || r.At() != 19 {
		t.Errorf("Text: %q, at %d", s, r.At())
	}
	if s := r.Text(0); s != "" || r.At() != 20 {
		t.Errorf("Text: %q, at %d", s, r.At())
	}
	if p := r.Raw(0); len(p) != 0 || r.At() != 20 {
		t.Errorf("Raw: %q, at %d", p, r.At())
	}
	if p := r.Raw(3); string(p) != "raw" || r.At() != 23 {
		t.Errorf("Raw: %q, at %d", p, r.At())
	}
	if p := r.Raw(0); len(p) != 0 || r.End() != api.OK {
		t.Errorf("Raw at the end: %q, End %d", p, r.End())
	}
}

func TestReaderReadsNumbersOfAnySize(t *testing.T) {
	for _, x := range numbers {
		for _, m := range []uint64{x.n, most} {
			r := octet.NewReader([]byte(x.b))
			if n := r.Var(m); n != x.n || r.End() != api.OK {
				t.Errorf("%x: %d, End %d", x.b, n, r.End())
			}
		}
		if x.n == 0 {
			continue
		}
		r := octet.NewReader([]byte(x.b))
		if n := r.Var(x.n - 1); n != 0 || r.Err() != api.ErrLong || r.At() != 0 {
			t.Errorf("%x above most: %d, %v", x.b, n, state(r))
		}
	}
}

func TestReaderErrors(t *testing.T) {
	readU32 := func(r *octet.Reader) bool { return r.U32() == 0 }
	readU64 := func(r *octet.Reader) bool { return r.U64() == 0 }
	readVar := func(m uint64) func(*octet.Reader) bool {
		return func(r *octet.Reader) bool { return r.Var(m) == 0 }
	}
	readText := func(m int) func(*octet.Reader) bool {
		return func(r *octet.Reader) bool { return r.Text(m) == "" }
	}
	readRaw := func(n int) func(*octet.Reader) bool {
		return func(r *octet.Reader) bool { return len(r.Raw(n)) == 0 }
	}
	for _, x := range []struct {
		name string
		b    string
		read func(*octet.Reader) bool
		want api.Errno
	}{
		{"Byte of nothing", "", func(r *octet.Reader) bool { return r.Byte() == 0 }, api.ErrEnd},
		{"U32 of nothing", "", readU32, api.ErrEnd},
		{"U32 of 3", "\x01\x02\x03", readU32, api.ErrEnd},
		{"U64 of nothing", "", readU64, api.ErrEnd},
		{"U64 of 7", "\x01\x02\x03\x04\x05\x06\x07", readU64, api.ErrEnd},
		{"Var of nothing", "", readVar(most), api.ErrEnd},
		{"Var cut off", "\x80", readVar(most), api.ErrEnd},
		{"Var of nine digits, cut off", nine, readVar(most), api.ErrEnd},
		{"Var cut off behind digits above 0", "\xff\x81", readVar(most), api.ErrEnd},
		{"Var cut off, above most already", "\xff\xff", readVar(0), api.ErrEnd},
		{"Var with a last 0", "\x80\x00", readVar(most), api.ErrForm},
		{"Var with a last 0, above most", "\x85\x00", readVar(4), api.ErrForm},
		{"Var with a tenth 2 behind digits above 0", "\xff\xff\xff\xff\xff\xff\xff\xff\xff\x02", readVar(most), api.ErrForm},
		{"Var with a last 0, something behind it", "\x85\x80\x00\x01", readVar(most), api.ErrForm},
		{"Var with a tenth 0", nine + "\x00", readVar(most), api.ErrForm},
		{"Var with a tenth 2", nine + "\x02", readVar(most), api.ErrForm},
		{"Var with a tenth 2, above most", nine + "\x02", readVar(0), api.ErrForm},
		{"Var with a tenth that goes on, and nothing", nine + "\x80", readVar(most), api.ErrForm},
		{"Var with a tenth that goes on", nine + "\x81\x00", readVar(most), api.ErrForm},
		{"Var above most", "\x05", readVar(4), api.ErrLong},
		{"Var above 0", "\x01", readVar(0), api.ErrLong},
		{"Var above most by its tenth", nine + "\x01", readVar(1<<63 - 1), api.ErrLong},
		{"Text of nothing", "", readText(9), api.ErrEnd},
		{"Text of nothing, most below 0", "", readText(-1), api.ErrEnd},
		{"Text with a length cut off", "\x80", readText(0), api.ErrEnd},
		{"Text with a length of another form", "\x82\x00ab", readText(9), api.ErrForm},
		{"Text with a length of another form, most below 0", "\x80\x00", readText(-1), api.ErrForm},
		{"Text with a length of another form, above most", "\x85\x00", readText(4), api.ErrForm},
		{"Text with a length's tenth 2", nine + "\x02", readText(math.MaxInt), api.ErrForm},
		{"Text above most", "\x03abc", readText(2), api.ErrLong},
		{"Text above most, cut off", "\x03", readText(2), api.ErrLong},
		{"Text above 0", "\x01a", readText(0), api.ErrLong},
		{"Text, most below 0", "\x01a", readText(-1), api.ErrLong},
		{"Text none, most below 0", "\x00", readText(-1), api.ErrLong},
		{"Text, most far below 0", "\x00", readText(math.MinInt), api.ErrLong},
		{"Text above any", "\xff\xff\xff\xff\xff\xff\xff\xff\xff\x01", readText(math.MaxInt), api.ErrLong},
		{"Text of 2^63", nine + "\x01", readText(math.MaxInt), api.ErrLong},
		{"Text cut off", "\x03ab", readText(3), api.ErrEnd},
		{"Text of 2^63 - 1, cut off", "\xff\xff\xff\xff\xff\xff\xff\xff\x7fab", readText(math.MaxInt), api.ErrEnd},
		{"Raw below 0", "abc", readRaw(-1), api.ErrLong},
		{"Raw below 0, of nothing", "", readRaw(-1), api.ErrLong},
		{"Raw far below 0", "abc", readRaw(math.MinInt), api.ErrLong},
		{"Raw of nothing", "", readRaw(1), api.ErrEnd},
		{"Raw cut off", "abc", readRaw(4), api.ErrEnd},
		{"Raw of more than there can be", "abc", readRaw(math.MaxInt), api.ErrEnd},
	} {
		for _, ahead := range []int{0, 1, 3} {
			r := octet.NewReader(append(make([]byte, ahead), x.b...))
			r.Raw(ahead)
			zero := x.read(r)
			if want := (told{x.want, ahead, len(x.b)}); !zero || state(r) != want {
				t.Errorf("%s: zero %v, %v, want %v", x.name, zero, state(r), want)
			}
			spent(t, x.name, r)
		}
	}
}

func TestReaderKeepsItsFirstError(t *testing.T) {
	bad := []struct {
		read func(*octet.Reader)
		want api.Errno
	}{
		{func(r *octet.Reader) { r.Var(0) }, api.ErrLong},
		{func(r *octet.Reader) { r.Raw(9) }, api.ErrEnd},
		{func(r *octet.Reader) { r.Raw(2); r.Var(most) }, api.ErrForm},
		{func(r *octet.Reader) { r.Raw(-1) }, api.ErrLong},
		{func(r *octet.Reader) { r.Text(-1) }, api.ErrLong},
		{func(r *octet.Reader) { r.U64() }, api.ErrEnd},
	}
	for k, x := range bad {
		r := octet.NewReader([]byte("\x01a\x80\x00bc"))
		x.read(r)
		was := state(r)
		for _, y := range bad {
			y.read(r)
		}
		if was.err != x.want || state(r) != was {
			t.Errorf("%d: %v became %v, want error %d", k, was, state(r), x.want)
		}
	}
}

func TestReaderSharesNoMemory(t *testing.T) {
	b := []byte("\x02abcdefgh|rest")[:9]
	r := octet.NewReader(b)
	b[1] = 'x'
	if s := r.Text(2); s != "ab" {
		t.Errorf("what was handed in is kept: %q", s)
	}
	p := r.Raw(2)
	for k := range p[:cap(p)] {
		p[:cap(p)][k] = '-'
	}
	if q := r.Raw(4); string(q) != "efgh" || string(p) != "--" {
		t.Errorf("what was answered is shared: %q, %q", q, p)
	}
	if string(b[:14]) != "\x02xbcdefgh|rest" {
		t.Errorf("what was handed in is changed: %q", b[:14])
	}
	one, two := octet.NewReader(b), octet.NewReader(b)
	one.Raw(99)
	if two.Err() != api.OK || two.Left() != 9 {
		t.Errorf("two readers have something in common: %v", state(two))
	}
}

// P1.3

func TestReaderPlaces(t *testing.T) {
	r := octet.NewReader([]byte("abc\x80\x01"))
	for k := range 3 {
		if r.At() != k || r.Left() != 5-k || r.End() != api.ErrRest || r.Err() != api.OK {
			t.Errorf("%d: %v, End %d", k, state(r), r.End())
		}
		r.Byte()
	}
	if n := r.Var(128); n != 128 || state(r) != (told{api.OK, 5, 0}) || r.End() != api.OK {
		t.Errorf("%d, %v, End %d", n, state(r), r.End())
	}
	r.Byte()
	if state(r) != (told{api.ErrEnd, 5, 0}) || r.End() != api.ErrEnd {
		t.Errorf("behind the end: %v, End %d", state(r), r.End())
	}
}

func TestReaderAtAnErrorIsWhereTheCallBegan(t *testing.T) {
	r := octet.NewReader([]byte("ab\x04cde"))
	r.Raw(2)
	r.Text(4)
	if state(r) != (told{api.ErrEnd, 2, 4}) || r.End() != api.ErrEnd {
		t.Errorf("%v, End %d", state(r), r.End())
	}
}

func TestRestDoesNotStay(t *testing.T) {
	r := octet.NewReader([]byte("a"))
	if r.End() != api.ErrRest || r.Err() != api.OK || r.End() != api.ErrRest {
		t.Errorf("End %d, Err %d", r.End(), r.Err())
	}
	if c := r.Byte(); c != 'a' || r.End() != api.OK {
		t.Errorf("%d, End %d", c, r.End())
	}
	if e := octet.NewReader(nil).End(); e != api.OK {
		t.Errorf("of nothing: %d", e)
	}
}

// P1.4

func TestNil(t *testing.T) {
	var w *octet.Writer
	w.Byte(1)
	w.U32(1)
	w.U64(1)
	w.Var(300)
	w.Text("a")
	w.Raw([]byte("a"))
	if w.Len() != 0 || len(w.Bytes()) != 0 {
		t.Errorf("Len %d, %x", w.Len(), w.Bytes())
	}
	var r *octet.Reader
	if state(r) != (told{api.ErrNil, 0, 0}) || r.End() != api.ErrNil {
		t.Errorf("%v, End %d", state(r), r.End())
	}
	spent(t, "nil", r)
}

func TestNoCallMadeIt(t *testing.T) {
	var w octet.Writer
	if w.Len() != 0 || len(w.Bytes()) != 0 {
		t.Errorf("Len %d, %x", w.Len(), w.Bytes())
	}
	w.Byte(7)
	w.Text("ab")
	if string(w.Bytes()) != "\x07\x02ab" {
		t.Errorf("%x", w.Bytes())
	}
	var r octet.Reader
	if state(&r) != (told{}) || r.End() != api.OK || len(r.Raw(0)) != 0 || r.Err() != api.OK {
		t.Errorf("%v, End %d", state(&r), r.End())
	}
	r.Byte()
	if state(&r) != (told{api.ErrEnd, 0, 0}) {
		t.Errorf("%v", state(&r))
	}
}

// P1.5

// step is a thing that is laid, read again, and laid once more of what was read.
type step struct {
	kind int
	n    uint64
	s    string
}

const kinds = 6

func (x step) lay(w *octet.Writer) {
	switch x.kind {
	case 0:
		w.Byte(byte(x.n))
	case 1:
		w.U32(uint32(x.n))
	case 2:
		w.U64(x.n)
	case 3:
		w.Var(x.n)
	case 4:
		w.Text(x.s)
	case 5:
		w.Raw([]byte(x.s))
	}
}

func (x step) read(r *octet.Reader) step {
	y := step{kind: x.kind}
	switch x.kind {
	case 0:
		y.n = uint64(r.Byte())
	case 1:
		y.n = uint64(r.U32())
	case 2:
		y.n = r.U64()
	case 3:
		y.n = r.Var(most)
	case 4:
		y.s = r.Text(math.MaxInt)
	case 5:
		y.s = string(r.Raw(len(x.s)))
	}
	return y
}

// steps are some of each kind, by a fixed rule.
func steps(count int) []step {
	var l []step
	n := uint64(1)
	for k := range count {
		n = n*6364136223846793005 + 1442695040888963407
		x := step{kind: k * 5 % kinds}
		switch v := n >> (k * 7 % 64); x.kind {
		case 0:
			x.n = v & 0xff
		case 1:
			x.n = v & math.MaxUint32
		case 2, 3:
			x.n = v
		case 4, 5:
			x.s = strings.Repeat(string([]byte{byte(n >> 40), byte(n >> 48)}), int(n>>56))
		}
		l = append(l, x)
	}
	return l
}

func TestWhatIsLaidIsReadAsItWas(t *testing.T) {
	l := steps(60 * kinds)
	w := octet.NewWriter()
	for _, x := range l {
		x.lay(w)
	}
	r := octet.NewReader(w.Bytes())
	for k, x := range l {
		if y := x.read(r); y != x {
			t.Fatalf("%d: %v became %v, Err %d", k, x, y, r.Err())
		}
	}
	if r.End() != api.OK {
		t.Errorf("End %d", r.End())
	}
}

func TestWhatIsLaidIsNotReadWhereItIsCutOff(t *testing.T) {
	l := steps(2 * kinds)
	w := octet.NewWriter()
	for _, x := range l {
		x.lay(w)
	}
	b := w.Bytes()
	for cut := range b {
		r := octet.NewReader(b[:cut])
		for _, x := range l {
			x.read(r)
		}
		if r.End() != api.ErrEnd {
			t.Errorf("cut off at %d: End %d", cut, r.End())
		}
	}
}

// texts are all texts of so many of these bytes at most.
func texts(of string, size int) []string {
	all := []string{""}
	for from := 0; size > 0; size-- {
		to := len(all)
		for _, s := range all[from:to] {
			for k := range len(of) {
				all = append(all, s+of[k:k+1])
			}
		}
		from = to
	}
	return all
}

func TestWhatIsReadIsWhatLayingItMakes(t *testing.T) {
	short := texts("\x00\x01\x02\x7f\x80\x81\xff", 5)
	var long []string
	for _, s := range texts("\x00\x01\x02\x80\x81", 3) {
		long = append(long, nine[1:]+s, "\xff\xff\xff\xff\xff\xff\xff\xff"+s)
	}
	for _, b := range append(short, long...) {
		for kind := range kinds {
			x := step{kind: kind, s: "abc"}
			r := octet.NewReader([]byte(b))
			y := x.read(r)
			if r.Err() != api.OK {
				continue
			}
			w := octet.NewWriter()
			y.lay(w)
			if !bytes.Equal(w.Bytes(), []byte(b)[:r.At()]) {
				t.Errorf("%x read by %d: laid %x", b, kind, w.Bytes())
			}
		}
	}
}
