package forp_test

import (
	"bytes"
	"encoding/binary"
	"fmt"
	"math"
	"slices"
	"strings"
	"testing"

	"ephemeris/forp"
)

// The model beside which the package is held: bits as a text of 0 and 1, and numbers by encoding/binary.

// pack tells the bits of a text eight to a byte, the last byte filled with 0s.
func pack(text string) []byte {
	b := make([]byte, (len(text)+7)/8)
	for i, x := range text {
		if x == '1' {
			b[i/8] |= 0x80 >> (i % 8)
		}
	}
	return b
}

// text tells bytes as a text of 0 and 1.
func text(b []byte) string {
	var s strings.Builder
	for _, x := range b {
		fmt.Fprintf(&s, "%08b", x)
	}
	return s.String()
}

// form is bytes of a least value, a size, and differences of so many bits, whether or not Encode would tell them so.
func form(least uint64, size int, l ...uint64) []byte {
	var s strings.Builder
	for _, x := range l {
		if size > 0 {
			fmt.Fprintf(&s, "%0*b", size, x)
		}
	}
	b := append(binary.AppendUvarint(nil, least), byte(size))
	return append(b, pack(s.String())...)
}

// encoded is Encode by hand.
func encoded(v []uint64) []byte {
	if len(v) == 0 {
		return nil
	}
	sorted := slices.Clone(v)
	slices.Sort(sorted)
	size := 0
	for size < 64 && (sorted[len(v)-1]-sorted[0])>>size > 0 {
		size++
	}
	l := make([]uint64, len(v))
	for i, x := range v {
		l[i] = x - sorted[0]
	}
	return form(sorted[0], size, l...)
}

// decoded is Decode by hand, of n that is not too great. It asks what must hold of the bytes themselves, and tells nothing again.
func decoded(b []byte, n int) ([]uint64, bool) {
	if n == 0 {
		return nil, len(b) == 0
	}
	least, at := binary.Uvarint(b)
	if at <= 0 || at == len(b) || at > 1 && b[at-1] == 0 || b[at] > 64 {
		return nil, false
	}
	size := int(b[at])
	s := text(b[at+1:])
	if len(s) != (n*size+7)/8*8 || strings.Contains(s[n*size:], "1") {
		return nil, false
	}
	var v []uint64
	lowest, highest := false, false
	for ; len(v) < n; s = s[size:] {
		var up uint64
		for _, x := range s[:size] {
			up = 2*up + uint64(x-'0')
		}
		if least > math.MaxUint64-up {
			return nil, false
		}
		lowest = lowest || up == 0
		highest = highest || size == 0 || s[0] == '1'
		v = append(v, least+up)
	}
	return v, lowest && highest
}

// mixer makes numbers that look like any, the same ones in each run.
type mixer uint64

func (m *mixer) next() uint64 {
	*m += 0x9e3779b97f4a7c15
	z := uint64(*m)
	z = (z ^ z>>30) * 0xbf58476d1ce4e5b9
	z = (z ^ z>>27) * 0x94d049bb133111eb
	return z ^ z>>31
}

// below tells a number of 0 to n-1.
func (m *mixer) below(n int) int {
	return int(m.next() % uint64(n))
}

// row tells n values that stand near each other, or far.
func (m *mixer) row(n int) []uint64 {
	v := make([]uint64, n)
	least, down := m.next()>>m.below(64), m.below(65)
	for i := range v {
		up := m.next() >> down
		v[i] = least + min(up, math.MaxUint64-least)
	}
	return v
}

// some tells a row of a few values, mostly.
func (m *mixer) some() []uint64 {
	return m.row(m.below(12) * (1 + m.below(4)*m.below(4)))
}

// same tells n values that are v.
func same(n int, v uint64) []uint64 {
	return slices.Repeat([]uint64{v}, n)
}

// show tells what a list begins with, and how long it is.
func show[T byte | uint64](l []T) string {
	if len(l) > 24 {
		return fmt.Sprintf("%d.. (%d)", l[:24], len(l))
	}
	return fmt.Sprintf("%d", l)
}

func checkEncode(t *testing.T, v []uint64, want []byte) {
	t.Helper()
	if got := forp.Encode(v); !bytes.Equal(got, want) {
		t.Fatalf("Encode(%s) is %s, not %s", show(v), show(got), show(want))
	}
}

func checkValues(t *testing.T, b []byte, n int, want []uint64) {
	t.Helper()
	if got, ok := forp.Decode(b, n); !ok || !slices.Equal(got, want) {
		t.Fatalf("Decode(%s, %d) is %s, %t; not %s", show(b), n, show(got), ok, show(want))
	}
}

func checkNone(t *testing.T, b []byte, n int) {
	t.Helper()
	if got, ok := forp.Decode(b, n); ok || len(got) != 0 {
		t.Fatalf("Decode(%s, %d) is %s, %t; there is none", show(b), n, show(got), ok)
	}
}

// checkBoth holds that v is told by these bytes, and that these are read as v.
func checkBoth(t *testing.T, v []uint64, b []byte) {
	t.Helper()
	checkEncode(t, v, b)
	checkValues(t, b, len(v), v)
}

// checkAny holds Decode of any bytes to the model; it tells whether they are a row.
func checkAny(t *testing.T, b []byte, n int) bool {
	t.Helper()
	want, ok := decoded(b, n)
	if !ok {
		checkNone(t, b, n)
		return false
	}
	checkValues(t, b, n, want)
	checkEncode(t, want, b)
	return true
}

func Test8_1KnownRows(t *testing.T) {
	top := uint64(math.MaxUint64)
	ff := bytes.Repeat([]byte{0xff}, 8)
	for _, x := range []struct {
		v    []uint64
		want []byte
	}{
		{nil, nil},
		{[]uint64{}, nil},
		{[]uint64{0}, []byte{0, 0}},
		{[]uint64{5}, []byte{5, 0}},
		{[]uint64{5, 5}, []byte{5, 0}},
		{[]uint64{300}, []byte{0xac, 2, 0}},
		{[]uint64{5, 6}, []byte{5, 1, 0x40}},
		{[]uint64{6, 5}, []byte{5, 1, 0x80}},
		{[]uint64{5, 6, 6, 5, 6, 5, 5, 6}, []byte{5, 1, 0x69}},
		{[]uint64{5, 6, 6, 5, 6, 5, 5, 6, 6}, []byte{5, 1, 0x69, 0x80}},
		{[]uint64{7, 5}, []byte{5, 2, 0x80}},
		{[]uint64{8, 5, 6}, []byte{5, 2, 0xc4}},
		{[]uint64{9, 5, 6}, []byte{5, 3, 0x80, 0x80}},
		{[]uint64{300, 303, 301}, []byte{0xac, 2, 2, 0x34}},
		{[]uint64{0, 255, 1}, []byte{0, 8, 0, 0xff, 1}},
		{[]uint64{0, 256, 1}, []byte{0, 9, 0, 0x40, 0, 0x20}},
		{[]uint64{top}, append(append([]byte{0xff}, ff...), 1, 0)},
		{[]uint64{top, top - 1}, append(append([]byte{0xfe}, ff...), 1, 1, 0x80)},
		{[]uint64{0, top}, append([]byte{0, 64, 0, 0, 0, 0, 0, 0, 0, 0}, ff...)},
		{[]uint64{top, 0}, append(append([]byte{0, 64}, ff...), 0, 0, 0, 0, 0, 0, 0, 0)},
		{[]uint64{1, top}, append([]byte{1, 64, 0, 0, 0, 0, 0, 0, 0, 0}, append(bytes.Clone(ff[:7]), 0xfe)...)},
	} {
		checkBoth(t, x.v, x.want)
	}
}

func Test8_1TheLeastMayStandAnywhere(t *testing.T) {
	for n := 1; n < 20; n++ {
		for at := range n {
			for _, up := range []uint64{1, 2, 200, 1 << 40} {
				v := same(n, 1000+up)
				v[at] = 1000
				checkBoth(t, v, encoded(v))
				v = same(n, 1000)
				v[at] += up
				checkBoth(t, v, encoded(v))
			}
		}
	}
}

func Test8_1EachSize(t *testing.T) {
	for size := 1; size <= 64; size++ {
		top := uint64(1)<<(size-1) - 1
		for _, up := range []uint64{top + 1, top + 1 + top/2, 2*top + 1} {
			for _, least := range []uint64{0, 5, 127, 128, math.MaxUint64 - up} {
				if least > math.MaxUint64-up {
					continue
				}
				v := []uint64{least + up, least, least + top, least + up/3, least + up}
				b := form(least, size, up, 0, top, up/3, up)
				checkBoth(t, v, b)
				if want := len(form(least, 0)) + (5*size+7)/8; len(b) != want {
					t.Fatalf("%d bytes, not %d", len(b), want)
				}
			}
		}
	}
}

func Test8_1ValuesThatAreAlikeNeedNoBits(t *testing.T) {
	for i := range 64 {
		for _, x := range []uint64{0, 1 << i, 1<<i - 1, math.MaxUint64 << i} {
			for _, n := range []int{1, 2, 7, 8, 9, 300, 65535} {
				checkBoth(t, same(n, x), append(binary.AppendUvarint(nil, x), 0))
			}
		}
	}
}

func Test8_1EncodeTellsAllOfALongRow(t *testing.T) {
	for _, n := range []int{65535, 65536, 70000, 200000} {
		checkEncode(t, same(n, 9), []byte{9, 0})
		v := same(n, 9)
		v[n-1] = 8
		want := append([]byte{8, 1}, bytes.Repeat([]byte{0xff}, (n+7)/8)...)
		want[len(want)-1] = byte(0xff << ((8 - n%8) % 8))
		want[len(want)-1] &^= 1 << ((8 - n%8) % 8)
		checkEncode(t, v, want)
		for i := range v {
			v[i] = uint64(i)
		}
		checkEncode(t, v, encoded(v))
	}
}

func Test8_1EncodeBesideTheModel(t *testing.T) {
	m := mixer(1)
	for range 3000 {
		v := m.some()
		checkBoth(t, v, encoded(v))
	}
}

func Test8_1EncodeLeavesWhatIsHandedIn(t *testing.T) {
	m := mixer(2)
	for range 100 {
		v := m.some()
		room := append(slices.Clone(v), 4, 4, 4, 4)
		want := slices.Clone(room)
		got := forp.Encode(room[:len(v)])
		kept := bytes.Clone(got)
		if !slices.Equal(room, want) {
			t.Fatalf("changed: %s, not %s", show(room), show(want))
		}
		all := got[:cap(got)]
		for i := range all {
			all[i] = 0x55
		}
		checkEncode(t, room[:len(v)], kept)
	}
}

func Test8_1DecodeHoldsN(t *testing.T) {
	for _, n := range []int{0, -1, -2, -65536, math.MinInt32, math.MinInt} {
		checkValues(t, nil, n, nil)
		checkValues(t, []byte{}, n, nil)
		checkNone(t, []byte{0}, n)
		checkNone(t, []byte{0, 0}, n)
		checkNone(t, []byte{5, 0}, n)
		checkNone(t, []byte{5, 1, 0x40}, n)
	}
	long := same(65536, 3)
	long[7] = 4
	for _, n := range []int{65535, 65536, 65537, 99999, 131071, math.MaxInt32, math.MaxInt} {
		checkValues(t, []byte{3, 0}, n, same(65535, 3))
		checkValues(t, encoded(long[:65535]), n, long[:65535])
		// One more, of the least, has no bytes of its own: the 0 that fills the last byte is its difference, too.
		checkValues(t, encoded(long), n, long[:65535])
		checkNone(t, append(encoded(long), 0), n)
		checkNone(t, encoded(long[:65528]), n)
		checkNone(t, nil, n)
	}
	long[65535] = 4
	checkNone(t, encoded(long), 65535)
	checkNone(t, encoded(long), 65536)
	checkNone(t, encoded(long[:65535]), 65528)
}

func Test8_1DecodeOfTooFewOrTooMany(t *testing.T) {
	checkNone(t, nil, 1)
	checkNone(t, []byte{}, 3)
	for size := 1; size <= 64; size++ {
		for n := 2; n < 20; n++ {
			l := make([]uint64, n)
			l[1], l[n-1] = 1<<(size-1), 1<<(size-1)
			b := form(5, size, l...)
			for other := range 3 * n {
				checkAny(t, b, other)
			}
			checkNone(t, b, n-1)
			checkNone(t, b, n+8)
		}
	}
}

func Test8_1DecodeOfALeastThatIsNot(t *testing.T) {
	checkNone(t, []byte{5, 1, 0x80}, 1)
	checkNone(t, []byte{5, 1, 0xc0}, 2)
	for size := 1; size <= 64; size++ {
		top := uint64(1) << (size - 1)
		checkNone(t, form(0, size, top), 1)
		checkNone(t, form(0, size, top, 2*top-1, top), 3)
		checkNone(t, form(5, size, top, top, top), 3)
		if size > 1 {
			checkNone(t, form(0, size, 1, top, 1), 3)
		}
		checkValues(t, form(0, size, 0, top, top), 3, []uint64{0, top, top})
	}
}

func Test8_1DecodeOfMoreBitsThanNeeded(t *testing.T) {
	checkNone(t, []byte{5, 1, 0}, 1)
	checkNone(t, []byte{5, 1, 0}, 2)
	checkNone(t, []byte{5, 2, 0x10}, 2)
	for size := 1; size <= 64; size++ {
		under := uint64(1)<<(size-1) - 1
		checkNone(t, form(5, size, 0), 1)
		checkNone(t, form(5, size, 0, 0, 0), 3)
		checkNone(t, form(0, size, 0, under, under), 3)
		checkNone(t, form(0, size, 0, under/2), 2)
		checkValues(t, form(0, size, 0, under+1), 2, []uint64{0, under + 1})
	}
}

func Test8_1DecodeOfSizesThatAreNone(t *testing.T) {
	for size := 65; size < 256; size++ {
		for _, n := range []int{1, 2, 3} {
			checkNone(t, []byte{5, byte(size)}, n)
			for _, bytesEach := range []int{8, (size + 7) / 8, size} {
				for _, x := range []byte{0, 1, 0x80, 0xff} {
					b := append([]byte{0, byte(size)}, make([]byte, bytesEach*n)...)
					b[len(b)-1] = x
					checkNone(t, b, n)
					// The last difference's 64 lowest bits, and its highest ones, are those of a greatest one.
					b[len(b)-8] |= x
					b[len(b)-bytesEach] |= x
					checkNone(t, b, n)
				}
			}
		}
	}
}

func Test8_1DecodeOfDifferencesThatGoRound(t *testing.T) {
	top := uint64(math.MaxUint64)
	checkNone(t, form(top, 1, 0, 1), 2)
	checkNone(t, form(top, 64, 0, top), 2)
	checkNone(t, form(1, 64, 0, top), 2)
	checkNone(t, form(1<<63, 64, 0, 1<<63), 2)
	for size := 1; size <= 64; size++ {
		up := uint64(1) << (size - 1)
		checkNone(t, form(top-up+1, size, 0, up), 2)
		checkNone(t, form(top-up+1, size, up, up, 0), 3)
		checkNone(t, form(top, size, 0, up), 2)
		checkValues(t, form(top-up, size, 0, up), 2, []uint64{top - up, top})
	}
}

func Test8_1DecodeOfBitsBehind(t *testing.T) {
	checkNone(t, []byte{5, 1, 0x41}, 2)
	checkNone(t, []byte{5, 1, 0x60}, 2)
	m := mixer(3)
	for range 300 {
		v := m.some()
		b := encoded(v)
		if len(v) == 0 {
			continue
		}
		size := int(b[len(binary.AppendUvarint(nil, slices.Min(v)))])
		for spare := range (8 - len(v)*size%8) % 8 {
			turned := bytes.Clone(b)
			turned[len(b)-1] ^= 1 << spare
			checkNone(t, turned, len(v))
		}
		for _, rest := range [][]byte{{0}, {1}, {0x80}, {0xff}, {0, 0}, {0, 1}, make([]byte, 8), make([]byte, 70)} {
			checkNone(t, append(bytes.Clone(b), rest...), len(v))
		}
	}
	for _, rest := range [][]byte{{0}, {0, 0}, {5, 0}, {0xff}} {
		checkNone(t, rest, 0)
	}
}

func Test8_1DecodeOfWhatEndsTooEarly(t *testing.T) {
	m := mixer(4)
	for range 300 {
		v := m.some()
		b := encoded(v)
		for at := range b {
			// What lies in the spare room behind is no part of what is read.
			checkNone(t, b[:at], len(v))
			checkAny(t, b[at:], len(v))
		}
	}
	for n := 1; n < 5; n++ {
		checkNone(t, []byte{5}, n)
		checkNone(t, []byte{0x80}, n)
		checkNone(t, []byte{0xac, 2}, n)
		checkNone(t, []byte{5, 1}, n)
		checkNone(t, []byte{5, 64}, n)
		checkNone(t, []byte{5, 64, 0, 0, 0, 0, 0, 0, 0}, n)
	}
}

func Test8_1DecodeOfLongerNumbers(t *testing.T) {
	checkNone(t, []byte{0x85, 0, 0}, 1)
	checkNone(t, []byte{0x80, 0, 0}, 1)
	checkNone(t, []byte{0x85, 0x80, 0, 0}, 1)
	checkNone(t, []byte{0x85, 0, 1, 0x40}, 2)
	nine := bytes.Repeat([]byte{0xff}, 9)
	checkValues(t, append(bytes.Clone(nine), 1, 0), 1, []uint64{math.MaxUint64})
	checkNone(t, append(bytes.Clone(nine), 2, 0), 1)
	checkNone(t, append(bytes.Clone(nine), 0, 0), 1)
	checkNone(t, append(bytes.Clone(nine), 0x81, 0), 1)
	checkNone(t, append(bytes.Clone(nine), 0x81, 1, 0), 1)
}

func Test8_1DecodeTellsNewMemory(t *testing.T) {
	m := mixer(5)
	for range 100 {
		v := m.some()
		room := append(encoded(v), 9, 9, 9)
		want := bytes.Clone(room)
		b := room[:len(room)-3]
		got, _ := forp.Decode(b, len(v))
		all := got[:cap(got)]
		for i := range all {
			all[i] = math.MaxUint64
		}
		if !bytes.Equal(room, want) {
			t.Fatalf("changed: %s, not %s", show(room), show(want))
		}
		checkValues(t, b, len(v), v)
	}
}

func Test8_2WhatIsToldIsRead(t *testing.T) {
	m := mixer(6)
	for range 3000 {
		v := m.some()
		checkValues(t, forp.Encode(v), len(v), v)
	}
}

func Test8_2LongRowsAreReadToo(t *testing.T) {
	m := mixer(7)
	for range 20 {
		v := m.row(65535)
		checkValues(t, forp.Encode(v), len(v), v)
		v = v[:65535-m.below(20)]
		checkValues(t, forp.Encode(v), len(v), v)
	}
}

func Test8_2AnyFewBytesAreOneRowOrNone(t *testing.T) {
	few := []byte{0, 1, 2, 8, 0x40, 0x80, 0xc0, 0xff}
	for size := range 6 {
		b := make([]byte, size)
		all := 1 << (3 * size)
		for i := range all {
			for k := range b {
				b[k] = few[i>>(3*k)&7]
			}
			for _, n := range []int{0, 1, 2, 3, 4, 7, 8, 9, 16, 17, 24} {
				checkAny(t, b, n)
			}
		}
	}
}

func Test8_2AnyThreeBytesAreOneRowOrNone(t *testing.T) {
	for size := range 256 {
		for x := range 256 {
			for _, n := range []int{1, 2, 3, 4, 5, 8, 9} {
				checkAny(t, []byte{5, byte(size), byte(x)}, n)
			}
		}
	}
}

func Test8_2AnyBytesAreOneRowOrNone(t *testing.T) {
	m := mixer(8)
	count := [2]int{}
	for range 10000 {
		v := m.some()
		b, n := encoded(v), len(v)
		switch m.below(6) {
		case 0:
			n += m.below(5) - 2
		case 1:
			b = b[:m.below(len(b)+1)]
		case 2:
			b = append(b, byte(m.next()), byte(m.below(4)))
		case 3:
			if len(b) > 0 {
				b[m.below(len(b))] ^= 1 << m.below(8)
			}
		case 4:
			if len(b) > 1 {
				at := m.below(len(b) - 1)
				b[at], b[at+1] = b[at+1], b[at]
			}
		}
		if checkAny(t, b, max(0, n)) {
			count[1]++
		} else {
			count[0]++
		}
	}
	if count[0] < 1000 || count[1] < 1000 {
		t.Fatal("too few of a kind were tried", count)
	}
}

func Test8_2EachTurnOfOneBitIsAnotherRowOrNone(t *testing.T) {
	m := mixer(9)
	for range 60 {
		v := m.some()
		b := encoded(v)
		for i := range 8 * len(b) {
			turned := bytes.Clone(b)
			turned[i/8] ^= 1 << (i % 8)
			checkAny(t, turned, len(v))
			if got, ok := forp.Decode(turned, len(v)); ok && slices.Equal(got, v) {
				t.Fatalf("%s are read of %s, too", show(v), show(turned))
			}
		}
	}
}

func Test8_2OtherRowsAreToldOtherwise(t *testing.T) {
	few := []uint64{0, 1, 6, 1 << 63}
	all := 1
	for n := range 7 {
		seen := map[string]int{}
		for i := range all {
			v := make([]uint64, n)
			for k := range v {
				v[k] = few[i%4]
				i /= 4
			}
			seen[string(forp.Encode(v))]++
		}
		if len(seen) != all {
			t.Fatalf("%d rows are told in %d forms", all, len(seen))
		}
		all *= 4
	}
}

func Test8_3NoCallPanics(t *testing.T) {
	m := mixer(10)
	all := []int{math.MinInt, -1, 0, 1, 2, 127, 128, 65535, 65536, math.MaxInt}
	for size := range 30 {
		lists := [][]byte{nil, make([]byte, size), bytes.Repeat([]byte{0xff}, size), bytes.Repeat([]byte{0x80}, size), bytes.Repeat([]byte{1}, size)}
		for range 5 {
			b := make([]byte, size)
			for i := range b {
				b[i] = byte(m.next()) >> m.below(8)
			}
			lists = append(lists, b)
		}
		for _, b := range lists {
			for _, n := range all {
				v, ok := forp.Decode(b, n)
				want := 0
				if ok {
					want = max(0, min(n, 65535))
				}
				if len(v) != want {
					t.Fatalf("%s, %d: %d values, %t", show(b), n, len(v), ok)
				}
			}
		}
		for _, x := range []uint64{0, 1, 1 << 63, math.MaxUint64} {
			if b := forp.Encode(same(size, x)); (len(b) == 0) != (size == 0) {
				t.Fatal(size, x, b)
			}
		}
	}
}
