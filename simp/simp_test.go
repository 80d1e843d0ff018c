package simp_test

import (
	"fmt"
	"math"
	"slices"
	"strconv"
	"strings"
	"testing"

	"ephemeris/simp"
)

// The model beside which the package is held: a word is a text of 0s and 1s, and so is each number.

// The two rows of the chapter's table.
const (
	countRow = "240 120 60 30 20 15 12 10 8 7 6 5 4 3 2 1"
	sizeRow  = "0 0 1 2 3 4 5 6 7 8 10 12 15 20 30 60"
)

// row is the numbers of a row of the table.
func row(s string) []int {
	var l []int
	for _, x := range strings.Fields(s) {
		n, _ := strconv.Atoi(x)
		l = append(l, n)
	}
	return l
}

var counts, sizes = row(countRow), row(sizeRow)

// text is the n lowest bits of v.
func text(v uint64, n int) string {
	s := strings.Repeat("0", 64) + strconv.FormatUint(v, 2)
	return s[len(s)-n:]
}

// number is what text made s of; of an empty one, 0.
func number(s string) uint64 {
	v, _ := strconv.ParseUint("0"+s, 2, 64)
	return v
}

// digits tells how many bits v has.
func digits(v uint64) int {
	return len(strings.TrimLeft(strconv.FormatUint(v, 2), "0"))
}

// word is the word of this kind with these numbers, what they have more than its bits cut off.
func word(tag int, u ...uint64) uint64 {
	s := ""
	for _, x := range u {
		s = text(x, sizes[tag]) + s
	}
	return number(text(uint64(tag), 4) + strings.Repeat("0", 60-len(s)) + s)
}

// fits tells whether the next word of u may be of this kind.
func fits(tag int, u []uint64) bool {
	if len(u) < counts[tag] && tag < 2 {
		return false
	}
	return digits(slices.Max(u[:min(len(u), counts[tag])])) <= sizes[tag]
}

// encoded is Encode by hand.
func encoded(u []uint64) ([]uint64, bool) {
	var w []uint64
	for len(u) > 0 {
		tag := 0
		for tag < 16 && !fits(tag, u) {
			tag++
		}
		if tag == 16 {
			return nil, false
		}
		n := min(len(u), counts[tag])
		w = append(w, word(tag, u[:n]...))
		u = u[n:]
	}
	return w, true
}

// loose tells all numbers that a word has places for.
func loose(x uint64) []uint64 {
	s := text(x, 64)
	tag := number(s[:4])
	var u []uint64
	for i := range counts[tag] {
		end := 64 - i*sizes[tag]
		u = append(u, number(s[end-sizes[tag]:end]))
	}
	return u
}

// decoded is Decode by hand, of n that is not too great.
func decoded(w []uint64, n int) ([]uint64, bool) {
	var u []uint64
	for _, x := range w {
		u = append(u, loose(x)...)
	}
	if len(u) < n {
		return nil, false
	}
	told, ok := encoded(u[:n])
	if !ok || !slices.Equal(told, w) {
		return nil, false
	}
	return u[:n], true
}

// mixer makes numbers that look like any, the same ones in each run.
type mixer uint64

func (m *mixer) next() uint64 {
	*m += 0x9e3779b97f4a7c15
	z := uint64(*m)
	z = (z ^ z>>30) * 0xbf58476d1ce4e5b9
	z = (z ^ z>>27) * 0x94d049bb133111eb
	return z ^ z>>31
}

// below tells a number of 0 to n-1.
func (m *mixer) below(n int) int {
	return int(m.next() % uint64(n))
}

// stretch tells n numbers of this many bits at most, each.
func (m *mixer) stretch(n, size int) []uint64 {
	u := make([]uint64, n)
	for i := range u {
		u[i] = m.next() >> 4 >> (60 - size)
	}
	return u
}

// some tells a row of stretches of numbers that are of like size, each stretch of another.
func (m *mixer) some() []uint64 {
	var u []uint64
	for range m.below(6) {
		n, size := m.below(20), sizes[m.below(16)]
		switch m.below(4) {
		case 0:
			n = m.below(300)
		case 1:
			size = m.below(61)
		case 2:
			n = counts[m.below(16)]
		}
		u = append(u, m.stretch(n, size)...)
	}
	return u
}

// same is n numbers that are the same.
func same(n int, v uint64) []uint64 {
	return slices.Repeat([]uint64{v}, n)
}

// join is all these rows, one behind the other.
func join(l ...[]uint64) []uint64 {
	return slices.Concat(l...)
}

// show tells a list for a fault, no more than its first ones.
func show(l []uint64) string {
	return fmt.Sprintf("%d: %x", len(l), l[:min(len(l), 20)])
}

func checkEncode(t *testing.T, u, want []uint64) {
	t.Helper()
	got, ok := simp.Encode(u)
	if !ok || !slices.Equal(got, want) {
		t.Fatalf("%s are told by %s, %v; not %s", show(u), show(got), ok, show(want))
	}
}

func checkTooGreat(t *testing.T, u []uint64) {
	t.Helper()
	if got, ok := simp.Encode(u); ok || len(got) != 0 {
		t.Fatalf("%s are told by %s, %v; not false", show(u), show(got), ok)
	}
}

// checkNumbers checks that n numbers of w are these.
func checkNumbers(t *testing.T, w []uint64, n int, want []uint64) {
	t.Helper()
	got, ok := simp.Decode(w, n)
	if !ok || !slices.Equal(got, want) {
		t.Fatalf("%d numbers of %s are %s, %v; not %s", n, show(w), show(got), ok, show(want))
	}
}

func checkNone(t *testing.T, w []uint64, n int) {
	t.Helper()
	if got, ok := simp.Decode(w, n); ok || len(got) != 0 {
		t.Fatalf("%d numbers of %s are %s, %v; not false", n, show(w), show(got), ok)
	}
}

// checkAny holds Decode of any words to what they are by hand, and what it tells to the one form of it.
func checkAny(t *testing.T, w []uint64, n int) bool {
	t.Helper()
	u, ok := decoded(w, n)
	if !ok {
		checkNone(t, w, n)
		return false
	}
	checkNumbers(t, w, n, u)
	checkEncode(t, u, w)
	return true
}

// checkBoth checks that u is told as by hand, and read again.
func checkBoth(t *testing.T, u []uint64) {
	t.Helper()
	w, ok := encoded(u)
	if !ok {
		t.Fatal("no row for this check", show(u))
	}
	checkEncode(t, u, w)
	checkNumbers(t, w, len(u), u)
}

func Test6_1KnownWords(t *testing.T) {
	for _, x := range []struct{ u, want []uint64 }{
		{nil, nil},
		{[]uint64{}, nil},
		{[]uint64{0}, []uint64{0x2000000000000000}},
		{[]uint64{1}, []uint64{0x2000000000000001}},
		// The first one stands lowest.
		{[]uint64{0, 1}, []uint64{0x2000000000000002}},
		{[]uint64{1, 1, 0, 1}, []uint64{0x200000000000000b}},
		{[]uint64{3, 1}, []uint64{0x3000000000000007}},
		{[]uint64{1, 3}, []uint64{0x300000000000000d}},
		{[]uint64{7, 0, 1}, []uint64{0x4000000000000047}},
		{[]uint64{1, 2, 3, 15}, []uint64{0x500000000000f321}},
		{[]uint64{31, 1}, []uint64{0x600000000000003f}},
		{[]uint64{63, 1}, []uint64{0x700000000000007f}},
		{[]uint64{127, 1}, []uint64{0x80000000000000ff}},
		{[]uint64{1, 2, 3, 4, 5, 6, 255}, []uint64{0x90ff060504030201}},
		{[]uint64{0x3ff, 1}, []uint64{0xa0000000000007ff}},
		{[]uint64{0xfff, 0xabc, 1, 2, 3}, []uint64{0xb003002001abcfff}},
		{[]uint64{0x7fff, 1}, []uint64{0xc00000000000ffff}},
		{[]uint64{0xfffff, 0x12345, 0x6789a}, []uint64{0xd6789a12345fffff}},
		{[]uint64{0x3fffffff, 1}, []uint64{0xe00000007fffffff}},
		{[]uint64{0x40000000}, []uint64{0xf000000040000000}},
		{[]uint64{0xfffffffffffffff}, []uint64{0xffffffffffffffff}},
		// Of what has no room, as many as have are told ahead of it.
		{[]uint64{1, 0x40000000}, []uint64{0xf000000000000001, 0xf000000040000000}},
		{[]uint64{0x40000000, 1}, []uint64{0xf000000040000000, 0x2000000000000001}},
		{[]uint64{1, 1, 0x100000}, []uint64{0xe000000040000001, 0xe000000000100000}},
		{[]uint64{1, 1, 1, 0x8000}, []uint64{0xd000010000100001, 0xd000000000008000}},
		{same(60, 1), []uint64{0x2fffffffffffffff}},
		{same(61, 1), []uint64{0x2fffffffffffffff, 0x2000000000000001}},
		{join(same(59, 1), same(1, 2)), []uint64{0x3555555555555555, 0x3955555555555555}},
		{join(same(60, 1), same(1, 2)), []uint64{0x2fffffffffffffff, 0x3000000000000002}},
		{join(same(120, 0), same(1, 9)), []uint64{0x1000000000000000, 0x5000000000000009}},
		{join(same(240, 0), same(1, 9)), []uint64{0, 0x5000000000000009}},
		{join(same(360, 0), same(1, 9)), []uint64{0, 0x1000000000000000, 0x5000000000000009}},
		{join(same(1, 9), same(240, 0)), []uint64{0x5000000000000009, 0x1000000000000000, 0x2000000000000000, 0x2000000000000000}},
		{join(same(1, 9), same(254, 0)), []uint64{0x5000000000000009, 0}},
	} {
		checkEncode(t, x.u, x.want)
		checkNumbers(t, x.want, len(x.u), x.u)
	}
}

func Test6_1EachKindsRoom(t *testing.T) {
	for tag := 2; tag < 16; tag++ {
		count, full := counts[tag], uint64(1)<<sizes[tag]-1
		for n := 1; n <= count; n++ {
			checkEncode(t, same(n, full), []uint64{word(tag, same(n, full)...)})
			// The least number that no kind ahead has room for, at each place.
			u := same(count, 0)
			u[n-1] = 1 << sizes[tag-1]
			if tag == 2 {
				u[n-1] = 1
			}
			checkEncode(t, u, []uint64{word(tag, u...)})
			checkNumbers(t, []uint64{word(tag, u...)}, count, u)
			checkNumbers(t, []uint64{word(tag, same(n, full)...)}, n, same(n, full))
		}
		// One more than have room is told by a word of its own.
		checkEncode(t, same(count+1, full), []uint64{word(tag, same(count, full)...), word(tag, full)})
		checkEncode(t, same(2*count+1, full), []uint64{word(tag, same(count, full)...), word(tag, same(count, full)...), word(tag, full)})
		checkEncode(t, join(same(count, full), same(1, 0)), []uint64{word(tag, same(count, full)...), 2 << 60})
	}
}

func Test6_1ANumberOfOneBitMore(t *testing.T) {
	for tag := 2; tag < 15; tag++ {
		count, full := counts[tag], uint64(1)<<sizes[tag]-1
		for n := range count {
			u := same(count, full)
			u[n]++
			w, ok := simp.Encode(u)
			if !ok || len(w) == 0 || w[0]>>60 <= uint64(tag) {
				t.Fatalf("%s are told by %s, %v", show(u), show(w), ok)
			}
			checkBoth(t, u)
		}
		// Behind the last place it does not hinder.
		u := join(same(count, full), same(1, full+1))
		checkEncode(t, u, []uint64{word(tag, u[:count]...), word(tag+1, u[count])})
	}
}

func Test6_1RowsOfNoughts(t *testing.T) {
	for n := range 1000 {
		w := same(n/240, 0)
		left := n % 240
		if left >= 120 {
			w = append(w, 1<<60)
			left -= 120
		}
		w = append(w, same((left+59)/60, 2<<60)...)
		checkEncode(t, same(n, 0), w)
		checkNumbers(t, w, n, same(n, 0))
		for _, v := range []uint64{1, 2, 1 << 59} {
			checkBoth(t, join(same(n, 0), same(1, v)))
			checkBoth(t, join(same(1, v), same(n, 0)))
		}
	}
}

func Test6_1EncodeOfEachSize(t *testing.T) {
	// Two numbers of each size: what has room for both, else a word each.
	for a := range 61 {
		for b := range 61 {
			for _, low := range []uint64{0, 1} {
				u := []uint64{(1<<a - 1) ^ low&(1<<a>>1), (1<<b - 1) ^ low&(1<<b>>1)}
				checkBoth(t, u)
				checkBoth(t, append(u, u...))
				checkBoth(t, join(u[:1], same(5, u[1])))
				checkBoth(t, join(same(9, u[0]), u))
			}
		}
	}
}

func Test6_1EncodeBesideTheModel(t *testing.T) {
	m := mixer(1)
	for range 3000 {
		u := m.some()
		w, _ := encoded(u)
		checkEncode(t, u, w)
	}
}

func Test6_1EncodeOfTooGreatANumber(t *testing.T) {
	for _, v := range []uint64{1 << 60, 1<<60 + 1, 1 << 61, 1<<61 - 1, 1 << 63, math.MaxUint64} {
		checkTooGreat(t, []uint64{v})
		checkTooGreat(t, []uint64{v, v})
		for _, n := range []int{1, 2, 59, 60, 61, 119, 120, 121, 239, 240, 241, 500} {
			for _, x := range []uint64{0, 1, 1<<60 - 1} {
				checkTooGreat(t, join(same(n, x), same(1, v)))
				checkTooGreat(t, join(same(1, v), same(n, x)))
				checkTooGreat(t, join(same(n, x), same(1, v), same(n, x)))
			}
		}
	}
	checkEncode(t, []uint64{1<<60 - 1}, []uint64{math.MaxUint64})
}

func Test6_1EncodeTellsAllOfALongRow(t *testing.T) {
	want := append(same(291, 0), 1<<60, 2<<60, 15<<60|1<<59)
	checkEncode(t, join(same(291*240+120+60, 0), same(1, 1<<59)), want)
	// But no more than 65,535 are read.
	checkNone(t, want, math.MaxInt)
}

func Test6_1EncodeLeavesWhatIsHandedIn(t *testing.T) {
	room := []uint64{5, 9, 1, 77, 78}
	got, _ := simp.Encode(room[:3])
	if !slices.Equal(room, []uint64{5, 9, 1, 77, 78}) {
		t.Fatal("changed", room)
	}
	clear(room)
	if !slices.Equal(got, []uint64{word(5, 5, 9, 1)}) {
		t.Fatal("kept", got)
	}
	for i := range got[:cap(got)] {
		got[:cap(got)][i] = 99
	}
	if !slices.Equal(room, same(5, 0)) {
		t.Fatal("shared", room)
	}
	checkEncode(t, []uint64{5, 9, 1}, []uint64{word(5, 5, 9, 1)})
}

func Test6_1DecodeHoldsN(t *testing.T) {
	for _, n := range []int{0, -1, -65535, math.MinInt} {
		checkNumbers(t, nil, n, nil)
		checkNumbers(t, []uint64{}, n, nil)
		for tag := range uint64(16) {
			checkNone(t, []uint64{tag << 60}, n)
		}
	}
	for _, v := range []uint64{0, 1<<60 - 1} {
		for _, size := range []int{65534, 65535, 65536, 70000} {
			w, _ := encoded(same(size, v))
			for _, n := range []int{65533, 65534, 65535, 65536, 70000, 1 << 32, math.MaxInt} {
				held := min(n, 65535)
				// A last word tells noughts at its end by as many as there are places.
				if held == size || v == 0 && size < 70000 {
					checkNumbers(t, w, n, same(held, v))
				} else {
					checkNone(t, w, n)
				}
			}
		}
	}
}

func Test6_1DecodeOfTooFewOrTooMany(t *testing.T) {
	m := mixer(2)
	rows := [][]uint64{{0}, {1}, {1 << 59}, same(120, 0), same(240, 0), same(360, 0), same(61, 1), {1, 2, 1 << 50, 3}}
	for range 30 {
		rows = append(rows, m.some())
	}
	for _, u := range rows {
		w, _ := encoded(u)
		for n := range w {
			checkNone(t, w[:n], len(u))
			checkAny(t, w[n+1:], len(u))
		}
		for tag := range uint64(16) {
			checkNone(t, append(slices.Clone(w), tag<<60), len(u))
			checkAny(t, append(slices.Clone(w), tag<<60), len(u)+1)
			checkAny(t, append(slices.Clone(w), tag<<60), len(u)+counts[tag])
		}
		// A last word has noughts at the places behind, which are not told apart from none.
		for n := range len(u) + 70 {
			checkAny(t, w, n)
		}
		checkNone(t, w, len(u)+300)
		checkNone(t, w, math.MaxInt)
	}
}

func Test6_1DecodeOfAnotherKind(t *testing.T) {
	m := mixer(3)
	for tag := 2; tag < 16; tag++ {
		for range 200 {
			n := 1 + m.below(counts[tag])
			size := m.below(sizes[tag] + 1)
			for _, u := range [][]uint64{m.stretch(n, size), m.stretch(counts[tag], size)} {
				// Each kind that has room for them all, and of these the first one alone is read.
				read := 0
				for other := range 16 {
					if len(u) > counts[other] || digits(slices.Max(u)) > sizes[other] {
						continue
					}
					if checkAny(t, []uint64{word(other, u...)}, len(u)) {
						read++
					}
				}
				if read != 1 {
					t.Fatalf("%s are read by %d kinds", show(u), read)
				}
			}
		}
	}
	checkNone(t, []uint64{0}, 239)
	checkNone(t, []uint64{0}, 120)
	checkNone(t, []uint64{0}, 1)
	checkNone(t, []uint64{1 << 60}, 119)
	checkNone(t, []uint64{1 << 60}, 60)
	checkNone(t, []uint64{1 << 60}, 1)
	checkNone(t, []uint64{1 << 60, 1 << 60}, 240)
	checkNone(t, []uint64{1 << 60, 0}, 360)
	checkNone(t, same(2, 2<<60), 120)
	checkNone(t, same(4, 2<<60), 240)
}

func Test6_1DecodeOfAWordThatIsNotFull(t *testing.T) {
	// All but the last have as many numbers as their kind.
	m := mixer(4)
	for tag := 2; tag < 16; tag++ {
		full := uint64(1)<<sizes[tag] - 1
		for n := 1; n < counts[tag]; n++ {
			u := same(n+1, full)
			checkNumbers(t, []uint64{word(tag, u...)}, n+1, u)
			checkNone(t, []uint64{word(tag, u[:n]...), word(tag, full)}, n+1)
			checkAny(t, []uint64{word(tag, m.stretch(n, sizes[tag])...), word(tag, full)}, counts[tag]+1)
		}
	}
}

func Test6_1DecodeOfBitsBehindTheLast(t *testing.T) {
	for tag := range 16 {
		full := uint64(1)<<sizes[tag] - 1
		for n := 1; n <= counts[tag]; n++ {
			if tag < 2 && n < counts[tag] {
				continue
			}
			x := word(tag, same(n, full)...)
			checkNumbers(t, []uint64{x}, n, same(n, full))
			for bit := n * sizes[tag]; bit < 60; bit++ {
				checkNone(t, []uint64{x | 1<<bit}, n)
				checkAny(t, []uint64{x | 1<<bit, x}, counts[tag]+n)
			}
		}
	}
}

func Test6_1DecodeTellsNewMemory(t *testing.T) {
	room := []uint64{word(2, same(60, 1)...), word(5, 5, 9, 1), 77, 78}
	kept := slices.Clone(room)
	want := join(same(60, 1), []uint64{5, 9, 1})
	first, _ := simp.Decode(room[:2], 63)
	for i := range first[:cap(first)] {
		first[:cap(first)][i] = 99
	}
	if !slices.Equal(room, kept) {
		t.Fatal("changed", room)
	}
	checkNumbers(t, room[:2], 63, want)
	second, _ := simp.Decode(room[:2], 63)
	clear(room)
	if !slices.Equal(second, want) {
		t.Fatal("kept", second)
	}
}

func Test6_2WhatIsToldIsRead(t *testing.T) {
	m := mixer(5)
	for range 3000 {
		u := m.some()
		w, ok := simp.Encode(u)
		if !ok || len(w) > len(u) {
			t.Fatalf("%s are told by %s, %v", show(u), show(w), ok)
		}
		checkNumbers(t, w, len(u), u)
	}
}

func Test6_2LongRowsAreReadToo(t *testing.T) {
	m := mixer(6)
	for size := range 61 {
		u := m.stretch(65535, size)
		w, ok := simp.Encode(u)
		if !ok {
			t.Fatal("not told:", size)
		}
		checkNumbers(t, w, len(u), u)
	}
	// A number at the end of each stretch that no word of few bits has room for.
	for _, n := range []int{0, 1, 2, 3, 59, 60, 61, 119, 120, 121, 239, 240, 241} {
		u := slices.Repeat(join(same(n, 0), same(1, 1<<59)), 65535/(n+1))
		w, _ := simp.Encode(u)
		checkNumbers(t, w, len(u), u)
	}
}

func Test6_2AnyWordsAreOneRowOrNone(t *testing.T) {
	m := mixer(7)
	count := [2]int{}
	for range 6000 {
		u := m.some()
		w, _ := encoded(u)
		n := len(u)
		switch m.below(8) {
		case 0:
			n += m.below(5) - 2
		case 1:
			w = w[:m.below(len(w)+1)]
		case 2:
			w = append(w, m.next()>>m.below(64))
		case 3:
			if len(w) > 0 {
				w[m.below(len(w))] ^= 1 << m.below(64)
			}
		case 4:
			if len(w) > 1 {
				at := m.below(len(w) - 1)
				w[at], w[at+1] = w[at+1], w[at]
			}
		}
		if checkAny(t, w, max(0, n)) {
			count[1]++
		} else {
			count[0]++
		}
	}
	if count[0] < 1000 || count[1] < 1000 {
		t.Fatal("too few of a kind were tried", count)
	}
}

func Test6_2EachTurnOfOneBitIsAnotherRowOrNone(t *testing.T) {
	m := mixer(8)
	for range 100 {
		u := m.some()
		w, _ := encoded(u)
		for range min(50, 64*len(w)) {
			turned := slices.Clone(w)
			turned[m.below(len(w))] ^= 1 << m.below(64)
			checkAny(t, turned, len(u))
			if got, ok := simp.Decode(turned, len(u)); ok && slices.Equal(got, u) {
				t.Fatalf("%s are read of %s, too", show(u), show(turned))
			}
		}
	}
}

func Test6_2OtherNumbersAreToldOtherwise(t *testing.T) {
	seen := map[[3]uint64]int{}
	few := []uint64{0, 1, 2, 3, 4, 255, 256, 1 << 15, 1 << 20, 1 << 30, 1<<60 - 1}
	for _, a := range few {
		for _, b := range few {
			for _, c := range few {
				w, _ := simp.Encode([]uint64{a, b, c})
				var form [3]uint64
				copy(form[:], w)
				seen[form]++
			}
		}
	}
	if want := len(few) * len(few) * len(few); len(seen) != want {
		t.Fatalf("%d rows are told in %d forms", want, len(seen))
	}
}

func Test6_3NoCallPanics(t *testing.T) {
	m := mixer(9)
	all := []int{math.MinInt, -1, 0, 1, 2, 59, 60, 61, 239, 240, 241, 65535, 65536, math.MaxInt}
	for size := range 40 {
		lists := [][]uint64{nil, make([]uint64, size), same(size, math.MaxUint64), same(size, 1<<63), same(size, 1<<60), same(size, 2<<60), same(size, 1<<60-1)}
		for range 10 {
			l := make([]uint64, size)
			for i := range l {
				l[i] = m.next() >> (4 * m.below(2) * m.below(16))
			}
			lists = append(lists, l)
		}
		for _, l := range lists {
			for _, n := range all {
				u, ok := simp.Decode(l, n)
				want := 0
				if ok {
					want = max(0, min(n, 65535))
				}
				if len(u) != want {
					t.Fatal(show(l), n, len(u), ok)
				}
			}
			w, ok := simp.Encode(l)
			if ok == slices.ContainsFunc(l, func(x uint64) bool { return x > 1<<60-1 }) || !ok && len(w) != 0 {
				t.Fatal(show(l), show(w), ok)
			}
		}
	}
}
