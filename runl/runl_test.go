package runl_test

import (
	"bytes"
	"encoding/binary"
	"fmt"
	"math"
	"slices"
	"testing"

	"ephemeris/runl"
)

// The model beside which the package is held: values one by one, and numbers by encoding/binary.

// form is bytes of these numbers, each as short as may be.
func form(l ...uint64) []byte {
	var b []byte
	for _, x := range l {
		b = binary.AppendUvarint(b, x)
	}
	return b
}

// encoded is Encode by hand: each value either makes the last run longer, or begins one.
func encoded(v []uint64) []byte {
	var l []uint64
	for i, x := range v {
		if i == 0 || x != v[i-1] {
			l = append(l, 0, x)
		}
		l[len(l)-2]++
	}
	return form(l...)
}

// decoded is Decode by hand, of n that is not too great: values are told as b says, and then Encode by hand must tell b of them.
func decoded(b []byte, n int) ([]uint64, bool) {
	var v []uint64
	for rest := b; len(rest) > 0; {
		count, at := binary.Uvarint(rest)
		if at <= 0 {
			return nil, false
		}
		value, size := binary.Uvarint(rest[at:])
		if size <= 0 {
			return nil, false
		}
		for ; count > 0 && len(v) <= n; count-- {
			v = append(v, value)
		}
		rest = rest[at+size:]
	}
	if len(v) != n || !bytes.Equal(encoded(v), b) {
		return nil, false
	}
	return v, true
}

// mixer makes numbers that look like any, the same ones in each run.
type mixer uint64

func (m *mixer) next() uint64 {
	*m += 0x9e3779b97f4a7c15
	z := uint64(*m)
	z = (z ^ z>>30) * 0xbf58476d1ce4e5b9
	z = (z ^ z>>27) * 0x94d049bb133111eb
	return z ^ z>>31
}

// below tells a number of 0 to n-1.
func (m *mixer) below(n int) int {
	return int(m.next() % uint64(n))
}

// some tells a row of a few runs, most of them short, of values of each size.
func (m *mixer) some() []uint64 {
	var v []uint64
	for range m.below(8) {
		v = append(v, same(1+m.below(4)*m.below(90), m.next()>>m.below(64))...)
	}
	return v
}

// same tells n values that are v.
func same(n int, v uint64) []uint64 {
	return slices.Repeat([]uint64{v}, n)
}

// counted tells n values, each unlike those about it.
func counted(n int) []uint64 {
	v := make([]uint64, n)
	for i := range v {
		v[i] = uint64(i)
	}
	return v
}

// show tells what a list begins with, and how long it is.
func show[T byte | uint64](l []T) string {
	if len(l) > 24 {
		return fmt.Sprintf("%d.. (%d)", l[:24], len(l))
	}
	return fmt.Sprintf("%d", l)
}

func checkEncode(t *testing.T, v []uint64, want []byte) {
	t.Helper()
	if got := runl.Encode(v); !bytes.Equal(got, want) {
		t.Fatalf("Encode(%s) is %s, not %s", show(v), show(got), show(want))
	}
}

func checkValues(t *testing.T, b []byte, n int, want []uint64) {
	t.Helper()
	if got, ok := runl.Decode(b, n); !ok || !slices.Equal(got, want) {
		t.Fatalf("Decode(%s, %d) is %s, %t; not %s", show(b), n, show(got), ok, show(want))
	}
}

func checkNone(t *testing.T, b []byte, n int) {
	t.Helper()
	if got, ok := runl.Decode(b, n); ok || len(got) != 0 {
		t.Fatalf("Decode(%s, %d) is %s, %t; there is none", show(b), n, show(got), ok)
	}
}

// checkBoth holds that v is told by these bytes, which are read as v, and as no other row of so many or fewer or more.
func checkBoth(t *testing.T, v []uint64, b []byte) {
	t.Helper()
	checkEncode(t, v, b)
	checkValues(t, b, len(v), v)
	checkNone(t, b, len(v)+1)
	if len(v) > 0 {
		checkNone(t, b, len(v)-1)
	}
}

// checkAny holds Decode of any bytes to the model; it tells whether they are a row.
func checkAny(t *testing.T, b []byte, n int) bool {
	t.Helper()
	want, ok := decoded(b, n)
	if !ok {
		checkNone(t, b, n)
		return false
	}
	checkValues(t, b, n, want)
	checkEncode(t, want, b)
	return true
}

func Test7_1KnownRows(t *testing.T) {
	for _, x := range []struct {
		v    []uint64
		want []byte
	}{
		{nil, nil},
		{[]uint64{}, nil},
		{[]uint64{0}, []byte{1, 0}},
		{[]uint64{5}, []byte{1, 5}},
		{[]uint64{0, 0}, []byte{2, 0}},
		{[]uint64{5, 5, 5}, []byte{3, 5}},
		{[]uint64{5, 5, 5, 6}, []byte{3, 5, 1, 6}},
		{[]uint64{6, 5, 5, 5}, []byte{1, 6, 3, 5}},
		{[]uint64{5, 6, 5, 6}, []byte{1, 5, 1, 6, 1, 5, 1, 6}},
		{[]uint64{0, 1, 1, 0, 0}, []byte{1, 0, 2, 1, 2, 0}},
		{[]uint64{3, 2, 2, 1, 1, 1}, []byte{1, 3, 2, 2, 3, 1}},
		{[]uint64{127, 128}, []byte{1, 0x7f, 1, 0x80, 1}},
		{same(127, 300), []byte{0x7f, 0xac, 2}},
		{same(128, 300), []byte{0x80, 1, 0xac, 2}},
		{[]uint64{math.MaxUint64, math.MaxUint64}, []byte{2, 0xff, 0xff, 0xff, 0xff, 0xff, 0xff, 0xff, 0xff, 0xff, 1}},
		{[]uint64{1 << 63, 1<<63 - 1}, []byte{1, 0x80, 0x80, 0x80, 0x80, 0x80, 0x80, 0x80, 0x80, 0x80, 1, 1, 0xff, 0xff, 0xff, 0xff, 0xff, 0xff, 0xff, 0xff, 0x7f}},
	} {
		checkBoth(t, x.v, x.want)
	}
}

func Test7_1ValuesThatAreAlikeInAllButABit(t *testing.T) {
	for i := range 64 {
		for _, x := range []uint64{0, math.MaxUint64, 0x5555555555555555} {
			y := x ^ 1<<i
			checkBoth(t, []uint64{x, x, y, y, y, x}, form(2, x, 3, y, 1, x))
		}
	}
}

func Test7_1ARunGoesAsLongAsItMay(t *testing.T) {
	for _, n := range []int{1, 2, 3, 63, 64, 127, 128, 129, 255, 256, 257, 16383, 16384, 32767, 32768, 65533} {
		checkBoth(t, same(n, 7), form(uint64(n), 7))
		checkBoth(t, append([]uint64{8}, same(n, 7)...), form(1, 8, uint64(n), 7))
		checkBoth(t, append(same(n-1, 0), 1), append(encoded(same(n-1, 0)), 1, 1))
	}
}

func Test7_1EncodeTellsAllOfALongRow(t *testing.T) {
	for _, n := range []int{65535, 65536, 200000, 1<<21 - 1, 1 << 21} {
		checkEncode(t, same(n, 9), form(uint64(n), 9))
	}
	for _, n := range []int{65535, 65536, 200000} {
		v := counted(n)
		checkEncode(t, v, encoded(v))
	}
}

func Test7_1EncodeBesideTheModel(t *testing.T) {
	m := mixer(1)
	for range 3000 {
		v := m.some()
		checkBoth(t, v, encoded(v))
	}
}

func Test7_1EncodeLeavesWhatIsHandedIn(t *testing.T) {
	m := mixer(2)
	for range 100 {
		v := m.some()
		room := append(slices.Clone(v), 4, 4, 4, 4)
		want := slices.Clone(room)
		got := runl.Encode(room[:len(v)])
		kept := bytes.Clone(got)
		if !slices.Equal(room, want) {
			t.Fatalf("changed: %s, not %s", show(room), show(want))
		}
		all := got[:cap(got)]
		for i := range all {
			all[i] = 0x55
		}
		checkEncode(t, room[:len(v)], kept)
	}
}

func Test7_1DecodeHoldsN(t *testing.T) {
	for _, n := range []int{0, -1, -2, -65536, math.MinInt32, math.MinInt} {
		checkValues(t, nil, n, nil)
		checkValues(t, []byte{}, n, nil)
		checkNone(t, []byte{1, 5}, n)
		checkNone(t, []byte{0, 5}, n)
	}
	for _, n := range []int{65535, 65536, 65537, 99999, 131071, math.MaxInt32, math.MaxInt} {
		checkValues(t, form(65535, 3), n, same(65535, 3))
		checkValues(t, form(65534, 3, 1, 4), n, append(same(65534, 3), 4))
		checkValues(t, encoded(counted(65535)), n, counted(65535))
		checkNone(t, form(65534, 3), n)
		checkNone(t, form(65536, 3), n)
		checkNone(t, form(65535, 3, 1, 4), n)
		checkNone(t, form(65537, 3), n)
		checkNone(t, form(99999, 3), n)
		checkNone(t, form(uint64(n)+1, 3), n)
		checkNone(t, encoded(counted(65536)), n)
		checkNone(t, nil, n)
	}
	checkNone(t, form(65535, 3), 65534)
	checkNone(t, encoded(counted(65535)), 65534)
}

func Test7_1DecodeOfTooFewOrTooMany(t *testing.T) {
	checkNone(t, nil, 1)
	checkNone(t, []byte{}, 3)
	checkNone(t, []byte{1, 5}, 0)
	checkNone(t, []byte{3, 5}, 2)
	checkNone(t, []byte{3, 5}, 4)
	checkNone(t, []byte{3, 5, 1, 6}, 3)
	checkNone(t, []byte{3, 5, 1, 6}, 5)
	checkNone(t, []byte{1, 5, 3, 6}, 1)
	checkNone(t, []byte{1, 5, 3, 6}, 2)
	checkNone(t, []byte{1, 5, 3, 6}, 3)
}

func Test7_1DecodeOfARunOfNone(t *testing.T) {
	checkNone(t, []byte{0, 5}, 0)
	checkNone(t, []byte{0, 0}, 0)
	checkNone(t, []byte{0, 0}, 1)
	checkNone(t, []byte{0, 5, 2, 6}, 2)
	checkNone(t, []byte{2, 5, 0, 6}, 2)
	checkNone(t, []byte{2, 5, 0, 5}, 2)
	checkNone(t, []byte{1, 5, 0, 6, 1, 5}, 2)
	checkNone(t, []byte{1, 5, 0, 5, 1, 6}, 2)
}

func Test7_1DecodeOfARunThatIsCutInTwo(t *testing.T) {
	for _, x := range []uint64{0, 1, 5, 128, math.MaxUint64} {
		checkNone(t, form(1, x, 1, x), 2)
		checkNone(t, form(2, x, 1, x), 3)
		checkNone(t, form(1, x, 127, x), 128)
		checkNone(t, form(1, x+1, 1, x, 1, x), 3)
		checkNone(t, form(1, x, 1, x, 1, x+1), 3)
		checkValues(t, form(1, x, 1, x+1, 1, x), 3, []uint64{x, x + 1, x})
	}
}

func Test7_1DecodeOfCountsThatGoRound(t *testing.T) {
	for _, n := range []int{0, 1, 3, 65535} {
		for _, up := range []uint64{1 << 16, 1 << 31, 1 << 32, 1 << 33, 1 << 62, 1 << 63} {
			checkNone(t, form(up+uint64(n), 5), n)
			checkNone(t, form(up, 5), n)
			checkNone(t, form(-up, 5), n)
			checkNone(t, form(math.MaxUint64, 5), n)
		}
		// All counts together are n, once they have gone round.
		checkNone(t, form(1, 5, uint64(n-1)-1<<32, 6, 1<<32, 7), n)
		checkNone(t, form(1<<63, 5, 1<<63+uint64(n), 6), n)
		checkNone(t, form(uint64(n+2), 5, math.MaxUint64-1, 6), n)
		checkNone(t, form(math.MaxUint64, 5, uint64(n+1), 6), n)
	}
	for _, n := range []uint64{1, 2, 3, 300, 65535} {
		for _, back := range []uint64{1, n/2 + 1, n} {
			checkNone(t, form(n, 5, -back, 6, back, 7), int(n))
			checkNone(t, form(n, 5, -back, 6), int(n-back))
			checkNone(t, form(n, 5, -back, 6), int(n))
		}
	}
}

func Test7_1DecodeOfLongerNumbers(t *testing.T) {
	checkNone(t, []byte{0x83, 0, 5}, 3)
	checkNone(t, []byte{3, 0x85, 0}, 3)
	checkNone(t, []byte{3, 0x80, 0}, 3)
	checkNone(t, []byte{0x83, 0x80, 0, 5}, 3)
	checkNone(t, []byte{1, 4, 0x83, 0, 5}, 4)
	checkNone(t, []byte{1, 4, 3, 0x85, 0}, 4)
	ten := []byte{1, 0xff, 0xff, 0xff, 0xff, 0xff, 0xff, 0xff, 0xff, 0xff}
	checkValues(t, append(bytes.Clone(ten), 1), 1, []uint64{math.MaxUint64})
	checkNone(t, append(bytes.Clone(ten), 2), 1)
	checkNone(t, append(bytes.Clone(ten), 0x81, 1), 1)
	checkNone(t, append(bytes.Clone(ten), 0x81, 0), 1)
}

func Test7_1DecodeOfWhatEndsTooEarly(t *testing.T) {
	m := mixer(3)
	for range 300 {
		v := m.some()
		b := encoded(v)
		for at := range b {
			// What lies in the spare room behind is no part of what is read.
			checkNone(t, b[:at], len(v))
			checkAny(t, b[at:], len(v))
		}
	}
	checkNone(t, []byte{3}, 3)
	checkNone(t, []byte{0}, 0)
	checkNone(t, []byte{0x80}, 0)
	checkNone(t, []byte{3, 5, 1}, 3)
	checkNone(t, []byte{3, 5, 1}, 4)
	checkNone(t, []byte{3, 5, 1, 0x80}, 4)
	checkNone(t, []byte{3, 5, 0x80}, 3)
}

func Test7_1DecodeOfBytesBehind(t *testing.T) {
	m := mixer(4)
	for range 300 {
		v := m.some()
		for _, rest := range [][]byte{{0}, {1}, {0xff}, {0, 0}, {0, 1}, {1, 0}, {1, 1}, {0x80, 0}, {0, 0, 0, 0}, bytes.Repeat([]byte{0x80}, 20)} {
			checkNone(t, append(encoded(v), rest...), len(v))
		}
	}
}

func Test7_1DecodeTellsNewMemory(t *testing.T) {
	m := mixer(5)
	for range 100 {
		v := m.some()
		room := append(encoded(v), 9, 9, 9)
		want := bytes.Clone(room)
		b := room[:len(room)-3]
		got, _ := runl.Decode(b, len(v))
		all := got[:cap(got)]
		for i := range all {
			all[i] = math.MaxUint64
		}
		if !bytes.Equal(room, want) {
			t.Fatalf("changed: %s, not %s", show(room), show(want))
		}
		checkValues(t, b, len(v), v)
	}
}

func Test7_2WhatIsToldIsRead(t *testing.T) {
	m := mixer(6)
	for range 3000 {
		v := m.some()
		checkValues(t, runl.Encode(v), len(v), v)
	}
}

func Test7_2LongRowsAreReadToo(t *testing.T) {
	m := mixer(7)
	v := counted(65535)
	for _, few := range []int{1, 2, 3, 100, 65535} {
		for i := range v {
			v[i] = uint64(m.below(few)) << m.below(2)
		}
		checkValues(t, runl.Encode(v), len(v), v)
	}
	for i := range v {
		v[i] = m.next()
	}
	checkValues(t, runl.Encode(v), len(v), v)
}

func Test7_2AnyFewBytesAreOneRowOrNone(t *testing.T) {
	few := []byte{0, 1, 2, 3, 0x7f, 0x80, 0x81, 0xff}
	for size := range 6 {
		b := make([]byte, size)
		all := 1 << (3 * size)
		for i := range all {
			for k := range b {
				b[k] = few[i>>(3*k)&7]
			}
			for _, n := range []int{0, 1, 2, 3, 4, 5, 6, 128, 129, 130} {
				checkAny(t, b, n)
			}
		}
	}
}

func Test7_2AnyBytesAreOneRowOrNone(t *testing.T) {
	m := mixer(8)
	count := [2]int{}
	for range 10000 {
		v := m.some()
		b, n := encoded(v), len(v)
		switch m.below(6) {
		case 0:
			n += m.below(5) - 2
		case 1:
			b = b[:m.below(len(b)+1)]
		case 2:
			b = append(b, byte(m.next()), byte(m.below(4)))
		case 3:
			if len(b) > 0 {
				b[m.below(len(b))] ^= 1 << m.below(8)
			}
		case 4:
			if len(b) > 1 {
				at := m.below(len(b) - 1)
				b[at], b[at+1] = b[at+1], b[at]
			}
		}
		if checkAny(t, b, max(0, n)) {
			count[1]++
		} else {
			count[0]++
		}
	}
	if count[0] < 1000 || count[1] < 1000 {
		t.Fatal("too few of a kind were tried", count)
	}
}

func Test7_2EachTurnOfOneBitIsAnotherRowOrNone(t *testing.T) {
	m := mixer(9)
	for range 300 {
		v := m.some()
		b := encoded(v)
		for i := range 8 * len(b) {
			turned := bytes.Clone(b)
			turned[i/8] ^= 1 << (i % 8)
			checkAny(t, turned, len(v))
			if got, ok := runl.Decode(turned, len(v)); ok && slices.Equal(got, v) {
				t.Fatalf("%s are read of %s, too", show(v), show(turned))
			}
		}
	}
}

func Test7_2OtherRowsAreToldOtherwise(t *testing.T) {
	few := []uint64{0, 1, 1 << 63}
	seen := map[string]int{}
	rows := 0
	all := 1
	for n := range 8 {
		for i := range all {
			v := make([]uint64, n)
			for k := range v {
				v[k] = few[i%3]
				i /= 3
			}
			seen[string(runl.Encode(v))]++
			rows++
		}
		all *= 3
	}
	if len(seen) != rows {
		t.Fatalf("%d rows are told in %d forms", rows, len(seen))
	}
}

func Test7_3NoCallPanics(t *testing.T) {
	m := mixer(10)
	all := []int{math.MinInt, -1, 0, 1, 2, 127, 128, 65535, 65536, math.MaxInt}
	for size := range 60 {
		lists := [][]byte{nil, make([]byte, size), bytes.Repeat([]byte{0xff}, size), bytes.Repeat([]byte{0x80}, size), bytes.Repeat([]byte{1}, size)}
		for range 20 {
			b := make([]byte, size)
			for i := range b {
				b[i] = byte(m.next()) >> m.below(8)
			}
			lists = append(lists, b)
		}
		for _, b := range lists {
			for _, n := range all {
				v, ok := runl.Decode(b, n)
				want := 0
				if ok {
					want = max(0, min(n, 65535))
				}
				if len(v) != want {
					t.Fatalf("%s, %d: %d values, %t", show(b), n, len(v), ok)
				}
			}
		}
		for _, x := range []uint64{0, 1, 1 << 63, math.MaxUint64} {
			if b := runl.Encode(same(size, x)); (len(b) == 0) != (size == 0) {
				t.Fatal(size, x, b)
			}
		}
	}
}
