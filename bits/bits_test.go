package bits_test

import (
	"bytes"
	"math"
	"testing"

	"ephemeris/bits"
)

// row is a row of bits, one a byte: a writer as plain as can be, to hold the package against.
type row []byte

func (r row) put(v uint64, n int) row {
	for i := min(n, 64) - 1; i >= 0; i-- {
		r = append(r, byte(v>>i&1))
	}
	return r
}

func (r row) bytes() []byte {
	b := make([]byte, (len(r)+7)/8)
	for i, x := range r {
		b[i/8] |= x << (7 - i%8)
	}
	return b
}

func (r row) number() uint64 {
	var v uint64
	for _, x := range r {
		v = v<<1 | uint64(x)
	}
	return v
}

// mixer makes numbers that look like any, the same ones in each run.
type mixer uint64

func (m *mixer) next() uint64 {
	*m += 0x9e3779b97f4a7c15
	z := uint64(*m)
	z = (z ^ z>>30) * 0xbf58476d1ce4e5b9
	z = (z ^ z>>27) * 0x94d049bb133111eb
	return z ^ z>>31
}

type item struct {
	v uint64
	n int
}

// items are numbers of 0 to 64 bits, with garbage above these.
func items(seed uint64, count int) []item {
	m := mixer(seed)
	l := make([]item, count)
	for i := range l {
		l[i] = item{m.next(), int(m.next() % 65)}
	}
	return l
}

// written tells what a writer holds once the items are put, and checks it beside the plain row at each.
func written(t *testing.T, l []item) (*bits.Writer, row) {
	t.Helper()
	w := bits.NewWriter()
	var want row
	for i, x := range l {
		w.Put(x.v, x.n)
		want = want.put(x.v, x.n)
		if w.Len() != len(want) || !bytes.Equal(w.Bytes(), want.bytes()) {
			t.Fatalf("item %d of %d bits: %d bits %x, not %d bits %x", i, x.n, w.Len(), w.Bytes(), len(want), want.bytes())
		}
	}
	return w, want
}

func checkReader(t *testing.T, r *bits.Reader, left int, ok bool) {
	t.Helper()
	if r.Left() != left || r.Ok() != ok {
		t.Fatalf("left %d, ok %v; not %d, %v", r.Left(), r.Ok(), left, ok)
	}
}

func checkGet(t *testing.T, r *bits.Reader, n int, want uint64) {
	t.Helper()
	if got := r.Get(n); got != want {
		t.Fatalf("Get(%d) is %x, not %x", n, got, want)
	}
}

func Test1_1NewWriterIsEmpty(t *testing.T) {
	w := bits.NewWriter()
	if w.Len() != 0 || len(w.Bytes()) != 0 {
		t.Fatal(w.Len(), w.Bytes())
	}
}

func Test1_1PutOfEachLengthAtEachPlace(t *testing.T) {
	for _, v := range []uint64{0, 1, math.MaxUint64, 1 << 63, 0x0123456789abcdef, 0xa5a5a5a5a5a5a5a5} {
		for ahead := range 17 {
			for n := range 65 {
				written(t, []item{{math.MaxUint64, ahead}, {v, n}, {5, 3}})
			}
		}
	}
}

func Test1_1PutExample(t *testing.T) {
	w := bits.NewWriter()
	w.Put(5, 3)
	if w.Len() != 3 || !bytes.Equal(w.Bytes(), []byte{0xa0}) {
		t.Fatal(w.Len(), w.Bytes())
	}
}

func Test1_1PutHoldsTheLength(t *testing.T) {
	for _, n := range []int{-1, -64, -65, math.MinInt} {
		w := bits.NewWriter()
		w.Put(1, 1)
		w.Put(math.MaxUint64, n)
		if w.Len() != 1 || !bytes.Equal(w.Bytes(), []byte{0x80}) {
			t.Fatal(n, w.Len(), w.Bytes())
		}
	}
	for _, n := range []int{65, 128, 1 << 32, math.MaxInt} {
		w := bits.NewWriter()
		w.Put(0, 1)
		w.Put(math.MaxUint64, n)
		want := []byte{0x7f, 255, 255, 255, 255, 255, 255, 255, 0x80}
		if w.Len() != 65 || !bytes.Equal(w.Bytes(), want) {
			t.Fatal(n, w.Len(), w.Bytes())
		}
	}
}

func Test1_1BytesIsNewMemory(t *testing.T) {
	w := bits.NewWriter()
	w.Put(0xabc, 12)
	first := w.Bytes()
	spare := first[:cap(first)]
	for i := range spare {
		spare[i] = 0x55
	}
	if got := w.Bytes(); !bytes.Equal(got, []byte{0xab, 0xc0}) {
		t.Fatalf("changed from outside: %x", got)
	}
	second := w.Bytes()
	w.Put(15, 4)
	w.Put(0xff, 8)
	if !bytes.Equal(second, []byte{0xab, 0xc0}) || !bytes.Equal(w.Bytes(), []byte{0xab, 0xcf, 0xff}) {
		t.Fatalf("shared: %x %x", second, w.Bytes())
	}
}

func Test1_1WritersAreApart(t *testing.T) {
	a, b := bits.NewWriter(), bits.NewWriter()
	a.Put(1, 1)
	b.Put(0, 9)
	if a.Len() != 1 || b.Len() != 9 || !bytes.Equal(a.Bytes(), []byte{0x80}) || !bytes.Equal(b.Bytes(), []byte{0, 0}) {
		t.Fatal(a.Bytes(), b.Bytes())
	}
}

func Test1_1GetOfEachLengthAtEachPlace(t *testing.T) {
	_, want := written(t, items(1, 6))
	b := want.bytes()
	want = want.put(0, 8*len(b)-len(want))
	if len(want) < 80 {
		t.Fatal("too few bits to try")
	}
	for ahead := range 17 {
		for n := range 65 {
			if ahead+n > len(want) {
				break
			}
			r := bits.NewReader(b)
			checkGet(t, r, ahead, want[:ahead].number())
			checkGet(t, r, n, want[ahead:ahead+n].number())
			checkReader(t, r, len(want)-ahead-n, true)
		}
	}
}

func Test1_1GetHoldsTheLength(t *testing.T) {
	b := []byte{0x81, 2, 3, 4, 5, 6, 7, 8, 0xff}
	for _, n := range []int{0, -1, math.MinInt} {
		r := bits.NewReader(b)
		checkGet(t, r, n, 0)
		checkReader(t, r, 72, true)
	}
	for _, n := range []int{64, 65, 1 << 32, math.MaxInt} {
		r := bits.NewReader(b)
		checkGet(t, r, n, 0x8102030405060708)
		checkReader(t, r, 8, true)
	}
}

func Test1_1GetOfTooFew(t *testing.T) {
	for size := range 9 {
		for used := range 8*size + 1 {
			for _, more := range []int{1, 2, 7, 8, 9, 64, math.MaxInt - 100} {
				left := 8*size - used
				if min(left+more, 64) <= left {
					continue
				}
				r := bits.NewReader(bytes.Repeat([]byte{0xff}, size))
				for range used {
					checkGet(t, r, 1, 1)
				}
				checkReader(t, r, left, true)
				checkGet(t, r, left+more, 0)
				checkReader(t, r, 0, false)
				for _, n := range []int{1, 0, -1, 8, 64, 99, 1} {
					checkGet(t, r, n, 0)
					checkReader(t, r, 0, false)
				}
			}
		}
	}
}

func Test1_1GetOfTheLastBitsStaysOk(t *testing.T) {
	r := bits.NewReader([]byte{0xa5, 0x0f})
	checkGet(t, r, 16, 0xa50f)
	checkReader(t, r, 0, true)
	checkGet(t, r, 0, 0)
	checkGet(t, r, -5, 0)
	checkReader(t, r, 0, true)
	checkGet(t, r, 1, 0)
	checkReader(t, r, 0, false)
}

func Test1_1ReaderOfNone(t *testing.T) {
	for _, b := range [][]byte{nil, {}, make([]byte, 0, 8)} {
		r := bits.NewReader(b)
		checkReader(t, r, 0, true)
		checkGet(t, r, 0, 0)
		checkReader(t, r, 0, true)
		checkGet(t, r, 1, 0)
		checkReader(t, r, 0, false)
	}
}

func Test1_1ReaderKeepsNothingThatIsHandedIn(t *testing.T) {
	room := []byte{1, 2, 3, 4}
	r := bits.NewReader(room[:2])
	room[0], room[1] = 0xff, 0xff
	checkReader(t, r, 16, true)
	checkGet(t, r, 12, 0x010)
	checkGet(t, r, 4, 2)
	checkGet(t, r, 8, 0)
	if !bytes.Equal(room, []byte{0xff, 0xff, 3, 4}) {
		t.Fatal("changed", room)
	}
}

func Test1_2WhatIsWrittenIsRead(t *testing.T) {
	for seed := range uint64(50) {
		l := items(seed, int(seed)*3)
		w, want := written(t, l)
		b := w.Bytes()
		r := bits.NewReader(b)
		left := 8 * len(b)
		for _, x := range l {
			checkGet(t, r, x.n, row{}.put(x.v, x.n).number())
			left -= x.n
			checkReader(t, r, left, true)
		}
		if left != 8*len(b)-len(want) || left > 7 {
			t.Fatal("more is left than what fills the last byte:", left)
		}
		checkGet(t, r, left, 0)
		checkReader(t, r, 0, true)
		checkGet(t, r, 1, 0)
		checkReader(t, r, 0, false)
	}
}

func Test1_2HoweverTheBitsAreParted(t *testing.T) {
	w, want := written(t, items(7, 200))
	b := w.Bytes()
	for size := 1; size <= 64; size++ {
		r, again := bits.NewReader(b), bits.NewWriter()
		for at := 0; at < len(want); {
			n := min(size, len(want)-at)
			v := r.Get(n)
			if v != want[at:at+n].number() {
				t.Fatalf("by %d at %d: %x", size, at, v)
			}
			again.Put(v, n)
			at += n
		}
		if again.Len() != w.Len() || !bytes.Equal(again.Bytes(), b) {
			t.Fatal("written again otherwise, by", size)
		}
	}
}

func Test1_2NothingBehindTheEnd(t *testing.T) {
	room := []byte{0xff, 0xff, 0xff}
	r := bits.NewReader(room[:1])
	checkGet(t, r, 4, 15)
	checkReader(t, r, 4, true)
	checkGet(t, r, 5, 0)
	checkReader(t, r, 0, false)
	checkGet(t, r, 4, 0)
}

func Test1_3NoCallPanics(t *testing.T) {
	lengths := []int{math.MinInt, -65, -64, -1, 0, 1, 7, 8, 9, 63, 64, 65, 127, 128, math.MaxInt}
	for _, first := range lengths {
		for _, second := range lengths {
			w := bits.NewWriter()
			w.Put(math.MaxUint64, first)
			w.Put(0x0123456789abcdef, second)
			b := w.Bytes()
			if want := max(0, min(first, 64)) + max(0, min(second, 64)); w.Len() != want {
				t.Fatal(first, second, w.Len())
			}
			for _, third := range lengths {
				r := bits.NewReader(b)
				r.Get(first)
				r.Get(third)
				r.Get(second)
				if r.Left() < 0 || r.Left() > 8*len(b) {
					t.Fatal(first, third, second, r.Left())
				}
			}
		}
	}
}
