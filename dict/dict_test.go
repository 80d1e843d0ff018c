package dict_test

import (
	"bytes"
	"encoding/binary"
	"fmt"
	"math"
	"slices"
	"strings"
	"testing"

	"ephemeris/dict"
)

// The model beside which the package is held: bits as a text of 0 and 1, and numbers by encoding/binary.

// pack tells the bits of a text eight to a byte, the last byte filled with 0s.
func pack(text string) []byte {
	b := make([]byte, (len(text)+7)/8)
	for i, x := range text {
		if x == '1' {
			b[i/8] |= 0x80 >> (i % 8)
		}
	}
	return b
}

// text tells bytes as a text of 0 and 1.
func text(b []byte) string {
	var s strings.Builder
	for _, x := range b {
		fmt.Fprintf(&s, "%08b", x)
	}
	return s.String()
}

// width tells how many bits each place takes beside so many values.
func width(count int) int {
	size := 0
	for 1<<size < count {
		size++
	}
	return size
}

// head is bytes of a count and a list of values, whether or not there are so many.
func head(count uint64, list ...uint64) []byte {
	b := binary.AppendUvarint(nil, count)
	for _, x := range list {
		b = binary.AppendUvarint(b, x)
	}
	return b
}

// body is bytes of places of so many bits.
func body(size int, places ...int) []byte {
	var s strings.Builder
	for _, x := range places {
		if size > 0 {
			fmt.Fprintf(&s, "%0*b", size, x)
		}
	}
	return pack(s.String())
}

// form is bytes of a list, and of places, whether or not Encode would tell them so.
func form(list []uint64, places ...int) []byte {
	return append(head(uint64(len(list)), list...), body(width(len(list)), places...)...)
}

// encoded is Encode by hand.
func encoded(v []uint64) ([]byte, bool) {
	if len(v) == 0 {
		return nil, true
	}
	var list []uint64
	var places []int
	for _, x := range v {
		if !slices.Contains(list, x) {
			list = append(list, x)
		}
		if len(list) > 256 {
			return nil, false
		}
		places = append(places, slices.Index(list, x))
	}
	return form(list, places...), true
}

// told is Encode by hand, of a row that has few values.
func told(v []uint64) []byte {
	b, ok := encoded(v)
	if !ok {
		panic("too many values")
	}
	return b
}

// number is the number that b begins with, in as few bytes as may be, and what is behind it.
func number(b []byte) (uint64, []byte, bool) {
	u, at := binary.Uvarint(b)
	if at <= 0 || at > 1 && b[at-1] == 0 {
		return 0, nil, false
	}
	return u, b[at:], true
}

// values is the list that b begins with, each value once, and what is behind it.
func values(b []byte) ([]uint64, []byte, bool) {
	count, b, ok := number(b)
	if !ok || count == 0 || count > 256 {
		return nil, nil, false
	}
	var list []uint64
	for len(list) < int(count) {
		var x uint64
		if x, b, ok = number(b); !ok || slices.Contains(list, x) {
			return nil, nil, false
		}
		list = append(list, x)
	}
	return list, b, true
}

// decoded is Decode by hand, of n that is not too great. It asks what must hold of the bytes themselves, and tells nothing again.
func decoded(b []byte, n int) ([]uint64, bool) {
	if n == 0 {
		return nil, len(b) == 0
	}
	list, rest, ok := values(b)
	if !ok {
		return nil, false
	}
	size := width(len(list))
	s := text(rest)
	if len(s) != (n*size+7)/8*8 || strings.Contains(s[n*size:], "1") {
		return nil, false
	}
	var v []uint64
	seen := 0
	for ; len(v) < n; s = s[size:] {
		place := 0
		for _, x := range s[:size] {
			place = 2*place + int(x-'0')
		}
		if place > seen || place >= len(list) {
			return nil, false
		}
		if place == seen {
			seen++
		}
		v = append(v, list[place])
	}
	return v, seen == len(list)
}

// mixer makes numbers that look like any, the same ones in each run.
type mixer uint64

func (m *mixer) next() uint64 {
	*m += 0x9e3779b97f4a7c15
	z := uint64(*m)
	z = (z ^ z>>30) * 0xbf58476d1ce4e5b9
	z = (z ^ z>>27) * 0x94d049bb133111eb
	return z ^ z>>31
}

// below tells a number of 0 to n-1.
func (m *mixer) below(n int) int {
	return int(m.next() % uint64(n))
}

// row tells n values, so many unlike at most.
func (m *mixer) row(n, unlike int) []uint64 {
	list := make([]uint64, unlike)
	for i := range list {
		list[i] = m.next() >> m.below(64)
	}
	v := make([]uint64, n)
	for i := range v {
		v[i] = list[m.below(unlike)]
	}
	return v
}

// some tells a row of a few values, mostly.
func (m *mixer) some() []uint64 {
	return m.row(m.below(12)*(1+m.below(4)*m.below(8)), 1+m.below(6)*m.below(50))
}

// same tells n values that are v.
func same(n int, v uint64) []uint64 {
	return slices.Repeat([]uint64{v}, n)
}

// counted tells n values of which each few that follow each other are unlike.
func counted(n, few int) []uint64 {
	v := make([]uint64, n)
	for i := range v {
		v[i] = uint64(i % few)
	}
	return v
}

// upTo tells the places 0 to n-1.
func upTo(n int) []int {
	l := make([]int, n)
	for i := range l {
		l[i] = i
	}
	return l
}

// show tells what a list begins with, and how long it is.
func show[T byte | uint64](l []T) string {
	if len(l) > 24 {
		return fmt.Sprintf("%d.. (%d)", l[:24], len(l))
	}
	return fmt.Sprintf("%d", l)
}

func checkEncode(t *testing.T, v []uint64, want []byte) {
	t.Helper()
	if got, ok := dict.Encode(v); !ok || !bytes.Equal(got, want) {
		t.Fatalf("Encode(%s) is %s, %t; not %s", show(v), show(got), ok, show(want))
	}
}

func checkTooMany(t *testing.T, v []uint64) {
	t.Helper()
	if got, ok := dict.Encode(v); ok || len(got) != 0 {
		t.Fatalf("Encode(%s) is %s, %t; there are too many", show(v), show(got), ok)
	}
}

func checkValues(t *testing.T, b []byte, n int, want []uint64) {
	t.Helper()
	if got, ok := dict.Decode(b, n); !ok || !slices.Equal(got, want) {
		t.Fatalf("Decode(%s, %d) is %s, %t; not %s", show(b), n, show(got), ok, show(want))
	}
}

func checkNone(t *testing.T, b []byte, n int) {
	t.Helper()
	if got, ok := dict.Decode(b, n); ok || len(got) != 0 {
		t.Fatalf("Decode(%s, %d) is %s, %t; there is none", show(b), n, show(got), ok)
	}
}

// checkBoth holds that v is told by these bytes, and that these are read as v.
func checkBoth(t *testing.T, v []uint64, b []byte) {
	t.Helper()
	checkEncode(t, v, b)
	checkValues(t, b, len(v), v)
}

// checkAny holds Decode of any bytes to the model; it tells whether they are a row.
func checkAny(t *testing.T, b []byte, n int) bool {
	t.Helper()
	want, ok := decoded(b, n)
	if !ok {
		checkNone(t, b, n)
		return false
	}
	checkValues(t, b, n, want)
	checkEncode(t, want, b)
	return true
}

func Test9_1KnownRows(t *testing.T) {
	top := append(bytes.Repeat([]byte{0xff}, 9), 1)
	for _, x := range []struct {
		v    []uint64
		want []byte
	}{
		{nil, nil},
		{[]uint64{}, nil},
		{[]uint64{0}, []byte{1, 0}},
		{[]uint64{5}, []byte{1, 5}},
		{[]uint64{5, 5}, []byte{1, 5}},
		{[]uint64{300, 300, 300}, []byte{1, 0xac, 2}},
		{[]uint64{5, 7}, []byte{2, 5, 7, 0x40}},
		{[]uint64{7, 5}, []byte{2, 7, 5, 0x40}},
		{[]uint64{5, 7, 5}, []byte{2, 5, 7, 0x40}},
		{[]uint64{7, 5, 5}, []byte{2, 7, 5, 0x60}},
		{[]uint64{5, 5, 7}, []byte{2, 5, 7, 0x20}},
		{[]uint64{5, 7, 7, 5, 7, 5, 5, 7}, []byte{2, 5, 7, 0x69}},
		{[]uint64{5, 7, 7, 5, 7, 5, 5, 7, 7}, []byte{2, 5, 7, 0x69, 0x80}},
		{[]uint64{9, 8, 300}, []byte{3, 9, 8, 0xac, 2, 0x18}},
		{[]uint64{9, 8, 9, 300, 8}, []byte{3, 9, 8, 0xac, 2, 0x12, 0x40}},
		{[]uint64{4, 3, 2, 1}, []byte{4, 4, 3, 2, 1, 0x1b}},
		{[]uint64{1, 2, 3, 4, 5}, []byte{5, 1, 2, 3, 4, 5, 0x05, 0x38}},
		{[]uint64{math.MaxUint64}, append([]byte{1}, top...)},
		{[]uint64{math.MaxUint64, 0}, append(append([]byte{2}, top...), 0, 0x40)},
		{[]uint64{0, math.MaxUint64}, append(append([]byte{2, 0}, top...), 0x40)},
	} {
		checkBoth(t, x.v, x.want)
	}
}

func Test9_1TheListGoesByWhatComesFirst(t *testing.T) {
	rows := [][]uint64{nil}
	for _, x := range []uint64{0, 1, 300, 1 << 63, math.MaxUint64} {
		var more [][]uint64
		for _, row := range rows {
			for at := range len(row) + 1 {
				more = append(more, slices.Insert(slices.Clone(row), at, x))
			}
		}
		rows = more
	}
	if len(rows) != 120 {
		t.Fatal(len(rows))
	}
	for _, row := range rows {
		checkBoth(t, row, form(row, 0, 1, 2, 3, 4))
		// What comes again, be it near or often, moves nothing.
		v := []uint64{row[0], row[0], row[1], row[0], row[2], row[2], row[1], row[3], row[0], row[4], row[3]}
		checkBoth(t, v, form(row, 0, 0, 1, 0, 2, 2, 1, 3, 0, 4, 3))
	}
}

func Test9_1EachCount(t *testing.T) {
	for count := 1; count <= 256; count++ {
		v := make([]uint64, count)
		for i := range v {
			v[i] = uint64(count-i) * 0x0123456789abcdef
		}
		b := form(v, upTo(count)...)
		checkBoth(t, v, b)
		size := 0
		for size < 8 && (count-1)>>size > 0 {
			size++
		}
		if want := len(head(uint64(count), v...)) + (count*size+7)/8; len(b) != want {
			t.Fatalf("%d bytes, not %d", len(b), want)
		}
		last := append(slices.Clone(v), v[count-1], v[0], v[count/2], v[count-1])
		checkBoth(t, last, form(v, append(upTo(count), count-1, 0, count/2, count-1)...))
	}
}

func Test9_1ValuesThatAreAlikeNeedNoBits(t *testing.T) {
	for i := range 64 {
		for _, x := range []uint64{0, 1 << i, 1<<i - 1, math.MaxUint64 << i} {
			for _, n := range []int{1, 2, 7, 8, 9, 300, 65535} {
				checkBoth(t, same(n, x), head(1, x))
			}
		}
	}
}

func Test9_1ValuesThatAreAlikeInAllButABit(t *testing.T) {
	for i := range 64 {
		for _, x := range []uint64{0, math.MaxUint64, 0x5555555555555555} {
			y := x ^ 1<<i
			checkBoth(t, []uint64{x, x, y, x, y}, form([]uint64{x, y}, 0, 0, 1, 0, 1))
		}
	}
	var v []uint64
	for i := range 64 {
		v = append(v, 1<<i, 1<<i-1, math.MaxUint64-1<<i)
	}
	checkBoth(t, v, told(v))
}

func Test9_1EncodeOfTooMany(t *testing.T) {
	checkBoth(t, counted(256, 256), form(counted(256, 256), upTo(256)...))
	for _, n := range []int{257, 258, 300, 511, 512, 513, 65536 + 1, 65536 + 256, 200000} {
		checkTooMany(t, counted(n, n))
		checkTooMany(t, counted(n, 257))
		checkEncode(t, counted(n, 256), told(counted(n, 256)))
	}
	for _, n := range []int{257, 300, 65535, 70000} {
		for _, at := range []int{0, 1, 128, 255, 256, n / 2, n - 1} {
			v := slices.Insert(counted(n-1, 256), at, math.MaxUint64)
			checkTooMany(t, v)
			v = same(n, 7)
			v[at] = 8
			checkEncode(t, v, told(v))
		}
	}
	// It does not hang on how far the values are from each other.
	m := mixer(1)
	for range 100 {
		v := make([]uint64, 256)
		for i := range v {
			v[i] = m.next()&^0xff | uint64(i)
		}
		checkBoth(t, v, form(v, upTo(256)...))
		checkTooMany(t, append(v, v[m.below(256)]^1<<8))
	}
}

func Test9_1EncodeTellsAllOfALongRow(t *testing.T) {
	for _, n := range []int{65535, 65536, 70000, 200000} {
		checkEncode(t, same(n, 9), []byte{1, 9})
		for _, few := range []int{2, 3, 17, 256} {
			checkEncode(t, counted(n, few), told(counted(n, few)))
		}
	}
}

func Test9_1EncodeBesideTheModel(t *testing.T) {
	m := mixer(2)
	for range 2000 {
		v := m.some()
		checkBoth(t, v, told(v))
	}
}

func Test9_1EncodeLeavesWhatIsHandedIn(t *testing.T) {
	m := mixer(3)
	for range 100 {
		v := m.some()
		room := append(slices.Clone(v), 4, 4, 4, 4)
		want := slices.Clone(room)
		got, _ := dict.Encode(room[:len(v)])
		kept := bytes.Clone(got)
		if !slices.Equal(room, want) {
			t.Fatalf("changed: %s, not %s", show(room), show(want))
		}
		all := got[:cap(got)]
		for i := range all {
			all[i] = 0x55
		}
		checkEncode(t, room[:len(v)], kept)
	}
}

func Test9_1DecodeHoldsN(t *testing.T) {
	for _, n := range []int{0, -1, -2, -65536, math.MinInt32, math.MinInt} {
		checkValues(t, nil, n, nil)
		checkValues(t, []byte{}, n, nil)
		checkNone(t, []byte{0}, n)
		checkNone(t, []byte{1, 5}, n)
		checkNone(t, []byte{2, 5, 7, 0x40}, n)
	}
	long := counted(65536, 2)
	long[65535] = 0
	for _, n := range []int{65535, 65536, 65537, 99999, 131071, math.MaxInt32, math.MaxInt} {
		checkValues(t, []byte{1, 3}, n, same(65535, 3))
		checkValues(t, told(counted(65535, 256)), n, counted(65535, 256))
		// One more, of the first place, has no bytes of its own: the 0 that fills the last byte is its place, too.
		checkValues(t, told(long), n, long[:65535])
		checkNone(t, append(told(long), 0), n)
		checkNone(t, told(long[:65528]), n)
		checkNone(t, told(counted(65536, 256)), n)
		checkNone(t, nil, n)
	}
	long[65535] = 1
	checkNone(t, told(long), 65535)
	checkNone(t, told(long), 65536)
	checkNone(t, told(long[:65535]), 65528)
}

func Test9_1DecodeOfTooFewOrTooMany(t *testing.T) {
	checkNone(t, nil, 1)
	checkNone(t, []byte{}, 3)
	checkNone(t, []byte{2, 5, 7, 0x40}, 1)
	checkNone(t, []byte{2, 5, 7, 0x40}, 9)
	checkValues(t, []byte{2, 5, 7, 0x40}, 8, []uint64{5, 7, 5, 5, 5, 5, 5, 5})
	for count := 2; count <= 256; count += 1 + count/9 {
		list := counted(count, count)
		for more := range 10 {
			places := append(upTo(count), slices.Repeat([]int{count - 1}, more)...)
			b := form(list, places...)
			for n := max(0, count-20); n < count+40; n++ {
				checkAny(t, b, n)
			}
			checkNone(t, b, count+more-1)
			checkNone(t, b, count+more+8)
			checkNone(t, b, count-1)
			checkNone(t, b, 1)
		}
	}
}

func Test9_1DecodeOfAListInAnotherOrder(t *testing.T) {
	checkNone(t, []byte{2, 5, 7, 0x80}, 2)
	checkNone(t, []byte{2, 5, 7, 0xa0}, 3)
	checkNone(t, form([]uint64{1, 2, 3}, 0, 2, 1), 3)
	checkNone(t, form([]uint64{1, 2, 3}, 1, 0, 2), 3)
	checkNone(t, form([]uint64{1, 2, 3}, 0, 0, 2, 1, 2), 5)
	for count := 2; count <= 256; count += 1 + count/20 {
		list := counted(count, count)
		for at := range count - 1 {
			places := upTo(count)
			places[at], places[at+1] = at+1, at
			checkNone(t, form(list, places...), count)
			turned := slices.Clone(list)
			turned[at], turned[at+1] = list[at+1], list[at]
			checkNone(t, form(turned, places...), count)
			// The other order is a row, too, where its values come so.
			checkValues(t, form(turned, upTo(count)...), count, turned)
		}
	}
}

func Test9_1DecodeOfAValueThatIsListedTwice(t *testing.T) {
	checkNone(t, []byte{2, 5, 5, 0x40}, 2)
	checkNone(t, []byte{2, 5, 5, 0}, 2)
	checkNone(t, []byte{3, 5, 6, 5, 0x18}, 3)
	checkNone(t, []byte{3, 5, 6, 6, 0x18}, 3)
	for count := 2; count <= 256; count += 1 + count/5 {
		for at := 1; at < count; at++ {
			list := counted(count, count)
			list[at] = list[at/2]
			checkNone(t, form(list, upTo(count)...), count)
			checkNone(t, form(list, append(upTo(count), 0)...), count+1)
		}
	}
}

func Test9_1DecodeOfAValueThatNoPlaceHas(t *testing.T) {
	checkNone(t, []byte{2, 5, 7, 0}, 1)
	checkNone(t, []byte{2, 5, 7, 0}, 2)
	checkNone(t, []byte{2, 5, 7, 0}, 8)
	checkNone(t, []byte{3, 5, 6, 7, 0x10}, 2)
	checkNone(t, []byte{3, 5, 6, 7, 0x10}, 3)
	checkNone(t, []byte{3, 5, 6, 7, 0x14}, 3)
	for count := 2; count <= 256; count += 1 + count/20 {
		list := counted(count, count)
		checkNone(t, form(list, upTo(count-1)...), count-1)
		for at := range count {
			without := slices.Delete(upTo(count), at, at+1)
			checkNone(t, form(list, without...), count-1)
			checkNone(t, form(list, append(without, without...)...), 2*count-2)
			checkValues(t, form(list, append(upTo(count), without...)...), 2*count-1, append(slices.Clone(list), slices.Delete(counted(count, count), at, at+1)...))
		}
	}
}

func Test9_1DecodeOfPlacesBeyondTheList(t *testing.T) {
	checkNone(t, []byte{3, 5, 6, 7, 0x1c}, 3)
	checkNone(t, []byte{3, 5, 6, 7, 0x1b}, 4)
	checkNone(t, []byte{3, 5, 6, 7, 0xc0}, 3)
	for count := 2; count <= 256; count++ {
		for place := count; place < 1<<width(count); place++ {
			b := form(counted(count, count), append(upTo(count), place)...)
			checkNone(t, b, count+1)
			b = form(counted(count, count), append(upTo(count), place, 0)...)
			checkNone(t, b, count+2)
		}
	}
	// Of one alone there are no places: what may look like such is behind the last value.
	checkNone(t, []byte{1, 5, 0}, 8)
	checkNone(t, []byte{1, 5, 0x80}, 1)
}

func Test9_1DecodeOfCountsThatAreNone(t *testing.T) {
	checkNone(t, []byte{0}, 0)
	for n := 1; n < 10; n++ {
		for behind := range 10 {
			checkNone(t, append([]byte{0}, make([]byte, behind)...), n)
			checkNone(t, append([]byte{0}, bytes.Repeat([]byte{1}, behind)...), n)
		}
	}
	for _, count := range []int{257, 258, 300, 511, 512, 513} {
		list := counted(count, count)
		checkNone(t, form(list, upTo(count)...), count)
		for size := range 11 {
			b := append(head(uint64(count), list...), body(size, make([]int, count)...)...)
			checkNone(t, b, count)
			checkNone(t, b, 1)
		}
	}
	for _, up := range []uint64{1 << 8, 1 << 16, 1 << 31, 1 << 32, 1 << 33, 1 << 62, 1 << 63, math.MaxUint64 - 1} {
		for _, v := range [][]uint64{{5}, {5, 7}, {5, 6, 7}} {
			count := uint64(len(v))
			for _, wrong := range []uint64{up + count, up, -up, -count, math.MaxUint64} {
				if wrong == count {
					continue
				}
				for n := range 10 {
					checkNone(t, append(head(wrong, v...), body(width(len(v)), upTo(len(v))...)...), n)
				}
			}
		}
	}
}

func Test9_1DecodeOfAnotherCount(t *testing.T) {
	for count := 1; count <= 256; count += 1 + count/20 {
		list := counted(count, count)
		for wrong := range 300 {
			for _, size := range []int{width(count), width(wrong)} {
				b := append(head(uint64(wrong), list...), body(size, upTo(count)...)...)
				if checkAny(t, b, count) && wrong != count {
					t.Fatalf("%d values are read of a list of %d", count, wrong)
				}
			}
		}
	}
}

func Test9_1DecodeOfPlacesOfAnotherSize(t *testing.T) {
	for count := 1; count <= 256; count++ {
		for _, size := range []int{width(count) - 1, width(count) + 1, 8, 9, 16, 64} {
			if size < 0 || size == width(count) {
				continue
			}
			places := upTo(count)
			for i := range places {
				places[i] &= 1<<size - 1
			}
			b := append(head(uint64(count), counted(count, count)...), body(size, places...)...)
			if len(body(size, places...)) != len(body(width(count), places...)) {
				checkNone(t, b, count)
			}
			checkAny(t, b, count)
		}
	}
}

func Test9_1DecodeOfBitsBehind(t *testing.T) {
	checkNone(t, []byte{2, 5, 7, 0x41}, 2)
	checkNone(t, []byte{2, 5, 7, 0x60}, 2)
	m := mixer(4)
	for range 300 {
		v := m.some()
		b := told(v)
		if len(v) == 0 {
			continue
		}
		list, _, _ := values(b)
		for spare := range (8 - len(v)*width(len(list))%8) % 8 {
			turned := bytes.Clone(b)
			turned[len(b)-1] ^= 1 << spare
			checkNone(t, turned, len(v))
		}
		for _, rest := range [][]byte{{0}, {1}, {0x80}, {0xff}, {0, 0}, {0, 1}, make([]byte, 8), make([]byte, 70)} {
			checkNone(t, append(bytes.Clone(b), rest...), len(v))
		}
	}
	for _, rest := range [][]byte{{0}, {0, 0}, {1, 5}, {0xff}} {
		checkNone(t, rest, 0)
	}
}

func Test9_1DecodeOfWhatEndsTooEarly(t *testing.T) {
	m := mixer(5)
	for range 200 {
		v := m.some()
		b := told(v)
		for at := range b {
			// What lies in the spare room behind is no part of what is read.
			checkNone(t, b[:at], len(v))
			checkAny(t, b[at:], len(v))
		}
	}
	for n := 1; n < 5; n++ {
		checkNone(t, []byte{1}, n)
		checkNone(t, []byte{0x80}, n)
		checkNone(t, []byte{1, 0x80}, n)
		checkNone(t, []byte{2, 5}, n)
		checkNone(t, []byte{2, 5, 7}, n)
		checkNone(t, []byte{2, 5, 0x87}, n)
		checkNone(t, []byte{0x80, 2, 5, 7}, n)
	}
}

func Test9_1DecodeOfLongerNumbers(t *testing.T) {
	checkNone(t, []byte{0x81, 0, 5}, 1)
	checkNone(t, []byte{0x81, 0x80, 0, 5}, 1)
	checkNone(t, []byte{1, 0x85, 0}, 1)
	checkNone(t, []byte{1, 0x80, 0}, 1)
	checkNone(t, []byte{0x82, 0, 5, 7, 0x40}, 2)
	checkNone(t, []byte{2, 0x85, 0, 7, 0x40}, 2)
	checkNone(t, []byte{2, 5, 0x87, 0, 0x40}, 2)
	nine := append([]byte{1}, bytes.Repeat([]byte{0xff}, 9)...)
	checkValues(t, append(bytes.Clone(nine), 1), 1, []uint64{math.MaxUint64})
	checkNone(t, append(bytes.Clone(nine), 2), 1)
	checkNone(t, append(bytes.Clone(nine), 0), 1)
	checkNone(t, append(bytes.Clone(nine), 0x81, 0), 1)
	checkNone(t, append(bytes.Clone(nine), 0x81, 1), 1)
}

func Test9_1DecodeTellsNewMemory(t *testing.T) {
	m := mixer(6)
	for range 100 {
		v := m.some()
		room := append(told(v), 9, 9, 9)
		want := bytes.Clone(room)
		b := room[:len(room)-3]
		got, _ := dict.Decode(b, len(v))
		all := got[:cap(got)]
		for i := range all {
			all[i] = math.MaxUint64
		}
		if !bytes.Equal(room, want) {
			t.Fatalf("changed: %s, not %s", show(room), show(want))
		}
		checkValues(t, b, len(v), v)
	}
}

func Test9_2WhatIsToldIsRead(t *testing.T) {
	m := mixer(7)
	for range 2000 {
		v := m.some()
		b, ok := dict.Encode(v)
		if !ok {
			t.Fatalf("%s are not told", show(v))
		}
		checkValues(t, b, len(v), v)
	}
}

func Test9_2LongRowsAreReadToo(t *testing.T) {
	m := mixer(8)
	for _, unlike := range []int{1, 2, 3, 4, 5, 16, 17, 128, 129, 255, 256} {
		v := m.row(65535, unlike)
		b, _ := dict.Encode(v)
		checkValues(t, b, len(v), v)
		v = v[:65535-m.below(20)]
		b, _ = dict.Encode(v)
		checkValues(t, b, len(v), v)
	}
}

func Test9_2AnyFewBytesAreOneRowOrNone(t *testing.T) {
	few := []byte{0, 1, 2, 3, 0x18, 0x40, 0x80, 0xff}
	for size := range 6 {
		b := make([]byte, size)
		all := 1 << (3 * size)
		for i := range all {
			for k := range b {
				b[k] = few[i>>(3*k)&7]
			}
			for _, n := range []int{0, 1, 2, 3, 4, 7, 8, 9, 16, 17} {
				checkAny(t, b, n)
			}
		}
	}
}

func Test9_2AnyPlacesAreOneRowOrNone(t *testing.T) {
	for x := range 1 << 16 {
		b := []byte{byte(x >> 8), byte(x)}
		checkAny(t, append([]byte{5, 9, 8, 7, 6, 5}, b...), 5)
		checkAny(t, append([]byte{3, 9, 8, 7}, b...), 1+x%8)
		checkAny(t, append([]byte{2, 9, 8}, b...), 1+x%16)
	}
}

func Test9_2AnyBytesAreOneRowOrNone(t *testing.T) {
	m := mixer(9)
	count := [2]int{}
	for range 6000 {
		v := m.some()
		b, n := told(v), len(v)
		switch m.below(6) {
		case 0:
			n += m.below(5) - 2
		case 1:
			b = b[:m.below(len(b)+1)]
		case 2:
			b = append(b, byte(m.next()), byte(m.below(4)))
		case 3:
			if len(b) > 0 {
				b[m.below(len(b))] ^= 1 << m.below(8)
			}
		case 4:
			if len(b) > 1 {
				at := m.below(len(b) - 1)
				b[at], b[at+1] = b[at+1], b[at]
			}
		}
		if checkAny(t, b, max(0, n)) {
			count[1]++
		} else {
			count[0]++
		}
	}
	if count[0] < 1000 || count[1] < 1000 {
		t.Fatal("too few of a kind were tried", count)
	}
}

func Test9_2EachTurnOfOneBitIsAnotherRowOrNone(t *testing.T) {
	m := mixer(10)
	for range 40 {
		v := m.row(m.below(60), 1+m.below(40))
		b := told(v)
		for i := range 8 * len(b) {
			turned := bytes.Clone(b)
			turned[i/8] ^= 1 << (i % 8)
			checkAny(t, turned, len(v))
			if got, ok := dict.Decode(turned, len(v)); ok && slices.Equal(got, v) {
				t.Fatalf("%s are read of %s, too", show(v), show(turned))
			}
		}
	}
}

func Test9_2OtherRowsAreToldOtherwise(t *testing.T) {
	few := []uint64{0, 1, 6, 1 << 63}
	all := 1
	for n := range 7 {
		seen := map[string]int{}
		for i := range all {
			v := make([]uint64, n)
			for k := range v {
				v[k] = few[i%4]
				i /= 4
			}
			b, _ := dict.Encode(v)
			seen[string(b)]++
		}
		if len(seen) != all {
			t.Fatalf("%d rows are told in %d forms", all, len(seen))
		}
		all *= 4
	}
}

func Test9_3NoCallPanics(t *testing.T) {
	m := mixer(11)
	all := []int{math.MinInt, -1, 0, 1, 2, 127, 128, 65535, 65536, math.MaxInt}
	for size := range 30 {
		lists := [][]byte{nil, make([]byte, size), bytes.Repeat([]byte{0xff}, size), bytes.Repeat([]byte{0x80}, size), bytes.Repeat([]byte{1}, size)}
		for range 5 {
			b := make([]byte, size)
			for i := range b {
				b[i] = byte(m.next()) >> m.below(8)
			}
			lists = append(lists, b)
		}
		for _, b := range lists {
			for _, n := range all {
				v, ok := dict.Decode(b, n)
				want := 0
				if ok {
					want = max(0, min(n, 65535))
				}
				if len(v) != want {
					t.Fatalf("%s, %d: %d values, %t", show(b), n, len(v), ok)
				}
			}
		}
		for _, x := range []uint64{0, 1, 1 << 63, math.MaxUint64} {
			if b, ok := dict.Encode(same(size, x)); !ok || (len(b) == 0) != (size == 0) {
				t.Fatal(size, x, b, ok)
			}
		}
	}
}
