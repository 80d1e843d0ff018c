package xorv_test

import (
	"math"
	"slices"
	"strconv"
	"strings"
	"testing"

	"ephemeris/bits"
	"ephemeris/xorv"
)

// The model beside which the package is held: bits are a text of 0s and 1s, and so is each value.

// text is the n lowest bits of v.
func text(v uint64, n int) string {
	s := strings.Repeat("0", 64) + strconv.FormatUint(v, 2)
	return s[len(s)-n:]
}

// number is what text made s of; of an empty one, 0.
func number(s string) uint64 {
	v, _ := strconv.ParseUint("0"+s, 2, 64)
	return v
}

// turned is the text of what turns from a to b.
func turned(a, b string) string {
	var s strings.Builder
	for i := range a {
		if a[i] == b[i] {
			s.WriteByte('0')
		} else {
			s.WriteByte('1')
		}
	}
	return s.String()
}

// model is a window, as the place of its first bit and the one behind its last.
type model struct{ from, to int }

// own is the window of a text that has a 1 in it.
func own(x string) model {
	return model{min(strings.Index(x, "1"), 31), strings.LastIndex(x, "1") + 1}
}

// holds tells whether each 1 of x is in the window.
func (m model) holds(x string) bool {
	return !strings.Contains(x[:m.from]+x[m.to:], "1")
}

// fresh is how x is told by a window that is told too.
func (m model) fresh(x string) string {
	return "11" + text(uint64(m.from), 5) + text(uint64(m.to-m.from-1), 6) + x[m.from:m.to]
}

// again is how x is told by the window told last.
func (m model) again(x string) string {
	return "10" + x[m.from:m.to]
}

// encoded is Encode by hand.
func encoded(l []uint64) string {
	var s strings.Builder
	var open *model
	for i, v := range l {
		if i == 0 {
			s.WriteString(text(v, 64))
			continue
		}
		x := turned(text(l[i-1], 64), text(v, 64))
		switch {
		case !strings.Contains(x, "1"):
			s.WriteString("0")
		case open != nil && open.holds(x):
			s.WriteString(open.again(x))
		default:
			m := own(x)
			open = &m
			s.WriteString(m.fresh(x))
		}
	}
	return s.String()
}

// cut takes n bits off s; false where it has fewer.
func cut(s *string, n int) (string, bool) {
	if len(*s) < n {
		return "", false
	}
	head := (*s)[:n]
	*s = (*s)[n:]
	return head, true
}

// loose takes a turn off s, in whichever form it is told: it is the window's bits with 0s around them.
func loose(s *string, open *model) (string, bool) {
	mark, ok := cut(s, 1)
	if !ok || mark == "0" {
		return text(0, 64), ok
	}
	mark, ok = cut(s, 1)
	if ok && mark == "1" {
		var from, size string
		if from, ok = cut(s, 5); ok {
			size, ok = cut(s, 6)
		}
		open.from = int(number(from))
		open.to = open.from + int(number(size)) + 1
	}
	if !ok || open.to > 64 {
		return "", false
	}
	x, ok := cut(s, open.to-open.from)
	if !ok {
		return "", false
	}
	return text(0, open.from) + x + text(0, 64-open.to), true
}

// decoded is Decode by hand, of n that is not too great: the values, and what is left of s.
func decoded(s string, n int) (l []uint64, rest string, ok bool) {
	rest = s
	var open model
	for i := range n {
		if i == 0 {
			head, ok := cut(&rest, 64)
			if !ok {
				return nil, "", false
			}
			l = append(l, number(head))
			continue
		}
		x, ok := loose(&rest, &open)
		if !ok {
			return nil, "", false
		}
		l = append(l, l[i-1]^number(x))
	}
	if encoded(l)+rest != s {
		return nil, "", false
	}
	return l, rest, true
}

// mixer makes numbers that look like any, the same ones in each run.
type mixer uint64

func (m *mixer) next() uint64 {
	*m += 0x9e3779b97f4a7c15
	z := uint64(*m)
	z = (z ^ z>>30) * 0xbf58476d1ce4e5b9
	z = (z ^ z>>27) * 0x94d049bb133111eb
	return z ^ z>>31
}

// below tells a number of 0 to n-1.
func (m *mixer) below(n int) int {
	return int(m.next() % uint64(n))
}

// some tells a number with any count of 0s ahead and behind; now and then 0.
func (m *mixer) some() uint64 {
	return m.next() >> m.below(65) << m.below(65)
}

// edges are turns beside each end of what a window can be.
func edges() []uint64 {
	l := []uint64{0, math.MaxUint64, 1<<63 + 1, 3, 3 << 62, 0xaaaaaaaaaaaaaaaa, 0x0123456789abcdef}
	for _, n := range []int{0, 1, 2, 30, 31, 32, 33, 34, 35, 61, 62, 63} {
		l = append(l, 1<<n, 1<<n-1, -(1 << n))
	}
	return l
}

// rows are rows of values of many kinds.
func rows() [][]uint64 {
	m := mixer(1)
	l := [][]uint64{nil, {}, {0}, {1}, {math.MaxUint64}, {1 << 63}, edges()}
	for _, n := range []int{2, 3, 10, 100} {
		count, float, any, far, few := make([]uint64, n), make([]uint64, n), make([]uint64, n), make([]uint64, n), make([]uint64, n)
		for i := range n {
			count[i] = uint64(i)
			float[i] = math.Float64bits(20 + float64(m.below(40))/4)
			any[i] = m.some()
			far[i] = m.next()
			few[i] = uint64(m.below(3)) << 40
		}
		l = append(l, count, float, any, far, few, make([]uint64, n))
	}
	return l
}

// put puts a text of bits.
func put(w *bits.Writer, s string) {
	for _, x := range s {
		w.Put(uint64(x-'0'), 1)
	}
}

// get tells, as a text, the n bits that r has next.
func get(r *bits.Reader, n int) string {
	var s strings.Builder
	for range n {
		s.WriteByte('0' + byte(r.Get(1)))
	}
	return s.String()
}

// reader is a reader with these bits left and no others: what fills the bytes is ahead of them, and passed.
func reader(s string) *bits.Reader {
	w := bits.NewWriter()
	ahead := (8 - len(s)%8) % 8
	put(w, strings.Repeat("1", ahead)+s)
	r := bits.NewReader(w.Bytes())
	r.Get(ahead)
	return r
}

func checkEncode(t *testing.T, l []uint64, want string) {
	t.Helper()
	w := bits.NewWriter()
	xorv.Encode(w, l)
	if w.Len() != len(want) {
		t.Fatalf("%x: %d bits, not %d", l, w.Len(), len(want))
	}
	if got := get(bits.NewReader(w.Bytes()), w.Len()); got != want {
		t.Fatalf("%x: %s, not %s", l, got, want)
	}
}

// checkValues checks that r gives these values as n ones, with so many bits left behind them.
func checkValues(t *testing.T, r *bits.Reader, n int, want []uint64, left int) {
	t.Helper()
	got, ok := xorv.Decode(r, n)
	if !ok || !slices.Equal(got, want) {
		t.Fatalf("%x, %v; not %x", got, ok, want)
	}
	if r.Left() != left || !r.Ok() {
		t.Fatalf("%d bits left, %v; not %d", r.Left(), r.Ok(), left)
	}
}

func checkNone(t *testing.T, r *bits.Reader, n int) {
	t.Helper()
	if got, ok := xorv.Decode(r, n); ok || len(got) != 0 {
		t.Fatalf("%d values are %x, %v; not false", n, got, ok)
	}
}

// checkAny holds Decode of any bits to what they are by hand, and what it tells to the one form of it.
func checkAny(t *testing.T, s string, n int) bool {
	t.Helper()
	l, rest, ok := decoded(s, n)
	if !ok {
		checkNone(t, reader(s), n)
		return false
	}
	checkValues(t, reader(s), n, l, len(rest))
	checkEncode(t, l, s[:len(s)-len(rest)])
	return true
}

// checkBoth checks that l is told as by hand, and read again.
func checkBoth(t *testing.T, l []uint64) {
	t.Helper()
	s := encoded(l)
	checkEncode(t, l, s)
	checkValues(t, reader(s), len(l), l, 0)
}

func Test5_1EncodeOfKnownValues(t *testing.T) {
	zero := strings.Repeat("0", 64)
	full := strings.Repeat("1", 64)
	for _, x := range []struct {
		l    []uint64
		want string
	}{
		{nil, ""},
		{[]uint64{}, ""},
		{[]uint64{0}, zero},
		{[]uint64{5}, zero[:61] + "101"},
		{[]uint64{math.MaxUint64}, full},
		{[]uint64{1 << 63}, "1" + zero[:63]},
		{[]uint64{0, 0}, zero + "0"},
		{[]uint64{math.MaxUint64, math.MaxUint64, math.MaxUint64}, full + "0" + "0"},
		// The 0s ahead are held to 31, so that more of them stand within the window.
		{[]uint64{0, 1}, zero + "11" + "11111" + "100000" + zero[:32] + "1"},
		{[]uint64{0, 1 << 31}, zero + "11" + "11111" + "000001" + "01"},
		{[]uint64{0, 1 << 32}, zero + "11" + "11111" + "000000" + "1"},
		{[]uint64{0, 1 << 33}, zero + "11" + "11110" + "000000" + "1"},
		{[]uint64{0, 5 << 30}, zero + "11" + "11111" + "000010" + "101"},
		// Those behind are not.
		{[]uint64{0, 1 << 63}, zero + "11" + "00000" + "000000" + "1"},
		{[]uint64{0, 3 << 62}, zero + "11" + "00000" + "000001" + "11"},
		{[]uint64{0, 1 << 40}, zero + "11" + "10111" + "000000" + "1"},
		{[]uint64{0, 1<<63 + 1}, zero + "11" + "00000" + "111111" + "1" + zero[:62] + "1"},
		{[]uint64{0, math.MaxUint64}, zero + "11" + "00000" + "111111" + full},
		{[]uint64{math.MaxUint64, math.MaxUint64 - 1}, full + "11" + "11111" + "100000" + zero[:32] + "1"},
		// What the window told last has room for is told within it.
		{[]uint64{0, 7 << 40, 6 << 40}, zero + "11" + "10101" + "000010" + "111" + "10" + "001"},
		{[]uint64{0, 7 << 40, 5 << 40}, zero + "11" + "10101" + "000010" + "111" + "10" + "010"},
		{[]uint64{0, 7 << 40, 3 << 40}, zero + "11" + "10101" + "000010" + "111" + "10" + "100"},
		{[]uint64{0, 7 << 40, 0, 5 << 40}, zero + "11" + "10101" + "000010" + "111" + "10" + "111" + "10" + "101"},
		{[]uint64{0, 1, 2}, zero + "11" + "11111" + "100000" + zero[:32] + "1" + "10" + zero[:31] + "11"},
		// What it has none for, ahead or behind, is told with a window of its own.
		{[]uint64{0, 7 << 40, 15 << 40}, zero + "11" + "10101" + "000010" + "111" + "11" + "10100" + "000000" + "1"},
		{[]uint64{0, 7 << 40, 15 << 39}, zero + "11" + "10101" + "000010" + "111" + "11" + "11000" + "000000" + "1"},
		{[]uint64{0, 1, 1 << 33}, zero + "11" + "11111" + "100000" + zero[:32] + "1" + "11" + "11110" + "100001" + "1" + zero[:32] + "1"},
		// That window holds from then on, even where it is the smaller one.
		{[]uint64{0, 6 << 40, 7 << 40, 3 << 40}, zero + "11" + "10101" + "000001" + "11" + "11" + "10111" + "000000" + "1" + "11" + "10101" + "000000" + "1"},
		// A value that stays leaves the window as it is.
		{[]uint64{0, 3 << 40, 3 << 40, 2 << 40}, zero + "11" + "10110" + "000001" + "11" + "0" + "10" + "01"},
		{[]uint64{9, 9, 8}, zero[:60] + "1001" + "0" + "11" + "11111" + "100000" + zero[:32] + "1"},
	} {
		checkEncode(t, x.l, x.want)
		checkValues(t, reader(x.want), len(x.l), x.l, 0)
	}
}

func Test5_1EachWindow(t *testing.T) {
	for high := range 64 {
		for low := range high + 1 {
			ends := uint64(1)<<high | uint64(1)<<low
			checkBoth(t, []uint64{0, ends})
			checkBoth(t, []uint64{0x0123456789abcdef, 0x0123456789abcdef ^ ends})
			// What fills the window, what has an end of it alone, and what goes one bit beyond.
			for _, next := range []uint64{2<<high - 1<<low, 1 << high, 1 << low, ends << 1, ends >> 1} {
				checkBoth(t, []uint64{0, ends, ends ^ next})
				checkBoth(t, []uint64{0, ends, ends, ends ^ next, ends})
			}
		}
	}
}

func Test5_1EncodeBesideTheModel(t *testing.T) {
	for _, l := range rows() {
		checkEncode(t, l, encoded(l))
	}
	for _, a := range edges() {
		for _, b := range edges() {
			for _, c := range edges() {
				// Once as values, and once as turns.
				checkEncode(t, []uint64{a, b, c}, encoded([]uint64{a, b, c}))
				checkEncode(t, []uint64{0, a, a ^ b, a ^ b ^ c}, encoded([]uint64{0, a, a ^ b, a ^ b ^ c}))
			}
		}
	}
}

func Test5_1EncodeGoesBehindWhatThereIs(t *testing.T) {
	l := []uint64{7, 8, 8, 500, 1 << 40, 1<<40 + 3}
	for ahead := range 70 {
		w := bits.NewWriter()
		s := strings.Repeat("10", 35)[:ahead]
		put(w, s)
		xorv.Encode(w, nil)
		if w.Len() != ahead {
			t.Fatal("none are told in bits:", w.Len()-ahead)
		}
		xorv.Encode(w, l)
		xorv.Encode(w, l[1:])
		put(w, "011")
		s += encoded(l) + encoded(l[1:]) + "011"
		if got := get(bits.NewReader(w.Bytes()), w.Len()); got != s {
			t.Fatalf("behind %d bits: %s, not %s", ahead, got, s)
		}
		r := bits.NewReader(w.Bytes())
		r.Get(min(ahead, 64))
		r.Get(ahead - 64)
		left := r.Left()
		checkValues(t, r, len(l), l, left-len(encoded(l)))
		checkValues(t, r, len(l)-1, l[1:], left-len(encoded(l)+encoded(l[1:])))
	}
}

func Test5_1EncodeLeavesWhatIsHandedIn(t *testing.T) {
	room := []uint64{5, 9, 1, 77, 78}
	w := bits.NewWriter()
	xorv.Encode(w, room[:3])
	if !slices.Equal(room, []uint64{5, 9, 1, 77, 78}) {
		t.Fatal("changed", room)
	}
	clear(room)
	checkValues(t, bits.NewReader(w.Bytes()), 3, []uint64{5, 9, 1}, 8*len(w.Bytes())-w.Len())
}

func Test5_1NoWindowIsKeptFromCallToCall(t *testing.T) {
	l := []uint64{0, 3 << 40, 1 << 40}
	for range 2 {
		checkEncode(t, l, encoded(l))
		checkValues(t, reader(encoded(l)), 3, l, 0)
		// By the window of the call ahead these would be values.
		checkNone(t, reader(text(0, 64)+"10"+"11"), 2)
	}
}

func Test5_1EncodeTellsAllOfALongRow(t *testing.T) {
	l := slices.Repeat([]uint64{6 << 40}, 70000)
	l[69999] = 7 << 40
	checkEncode(t, l, text(6<<40, 64)+strings.Repeat("0", 69998)+"11"+"10111"+"000000"+"1")
}

func Test5_1DecodeReadsNoMoreThanN(t *testing.T) {
	l := []uint64{3, 70, 71, 71, 1 << 50, 1<<50 + 1, 1}
	all := encoded(l)
	for n := range len(l) + 1 {
		checkValues(t, reader(all), n, l[:n], len(all)-len(encoded(l[:n])))
	}
}

func Test5_1DecodeHoldsN(t *testing.T) {
	for _, n := range []int{0, -1, -65535, math.MinInt} {
		checkValues(t, reader(""), n, nil, 0)
		checkValues(t, reader("111"), n, nil, 3)
	}
	l := slices.Repeat([]uint64{8}, 65536)
	l[0] = 9
	head := encoded(l[:2])
	all := head + strings.Repeat("0", 69998)
	for _, n := range []int{65534, 65535, 65536, 70000, 1 << 32, math.MaxInt} {
		held := min(n, 65535)
		checkValues(t, reader(all), n, l[:held], 70000-held)
	}
	// Of more, the first 65,535 are enough.
	checkValues(t, reader(all[:len(head)+65533]), math.MaxInt, l[:65535], 0)
	checkNone(t, reader(all[:len(head)+65532]), math.MaxInt)
}

func Test5_1DecodeOfWhatEndsTooEarly(t *testing.T) {
	for _, l := range [][]uint64{{1}, {1, 1}, {1, 2}, {1, 1 << 40}, {0, 3 << 40, 1 << 40}, {0, math.MaxUint64, 0}, {1, 5, 90, 90, 900, 1 << 40, 1 << 41, 1 << 41}} {
		s := encoded(l)
		for n := range s {
			checkNone(t, reader(s[:n]), len(l))
		}
		checkValues(t, reader(s), len(l), l, 0)
		checkNone(t, reader(s), len(l)+1)
		checkNone(t, reader(s), math.MaxInt)
	}
	for _, s := range []string{"1", "10", "11", "11" + "1111", "11" + "11111" + "00000", "11" + "00000" + "111111" + strings.Repeat("1", 63)} {
		checkNone(t, reader(text(1, 64)+s), 2)
		checkNone(t, reader(text(1, 64)+"0"+s), 3)
	}
}

func Test5_1DecodeOfAReaderThatIsNotOk(t *testing.T) {
	for _, n := range []int{math.MinInt, -1, 0, 1, 2, 65535, math.MaxInt} {
		for _, s := range []string{"", "0", strings.Repeat("0", 63), strings.Repeat("1", 30)} {
			r := reader(s)
			for r.Ok() {
				r.Get(64)
			}
			checkNone(t, r, n)
		}
	}
	// Where the reader is read to its end and no further, none are still told.
	r := reader(strings.Repeat("1", 64))
	r.Get(64)
	checkValues(t, r, 0, nil, 0)
}

func Test5_1DecodeWithoutAWindow(t *testing.T) {
	behind := strings.Repeat("1", 200)
	checkNone(t, reader(text(7, 64)+"10"), 2)
	checkNone(t, reader(text(7, 64)+"10"+behind), 2)
	checkNone(t, reader(text(7, 64)+"10"+strings.Repeat("0", 200)), 2)
	checkNone(t, reader(text(7, 64)+"00"+"10"+behind), 4)
	// It is not looked at before its turn comes.
	checkValues(t, reader(text(7, 64)+"00"+"10"+behind), 3, []uint64{7, 7, 7}, 202)
}

func Test5_1DecodeOfEachWindow(t *testing.T) {
	m := mixer(5)
	for from := range 32 {
		for size := 1; size <= 64; size++ {
			head := text(m.next(), 64) + "11" + text(uint64(from), 5) + text(uint64(size-1), 6)
			for _, v := range []uint64{0, 1, 1 << 63, 1<<63 + 1, math.MaxUint64, math.MaxUint64 - 1, math.MaxInt64, m.next(), m.next()} {
				x := text(v>>(64-size), size)
				ok := checkAny(t, head+x+"0", 3)
				whole := from+size <= 64 && strings.HasSuffix(x, "1") && (from == 31 || x[0] == '1')
				if ok != whole {
					t.Fatalf("%d 0s ahead of %s: %v", from, x, ok)
				}
				checkAny(t, head+text(v, 64)+text(v, 64), 2)
			}
		}
	}
}

// windows are few windows of many kinds.
func windows() []model {
	var l []model
	for _, from := range []int{0, 1, 2, 7, 23, 24, 30, 31} {
		for _, to := range []int{1, 2, 3, 8, 24, 25, 26, 31, 32, 33, 34, 63, 64} {
			if from < to {
				l = append(l, model{from, to})
			}
		}
	}
	return l
}

func Test5_1DecodeOfTwoWindows(t *testing.T) {
	// Each turn behind each window, in both forms, within the window told last and by another: one form alone is read.
	for _, a := range windows() {
		x := text(0, a.from) + strings.Repeat("1", a.to-a.from) + text(0, 64-a.to)
		head := text(0, 64) + a.fresh(x)
		for _, b := range windows() {
			y := text(0, b.from) + strings.Repeat("1", b.to-b.from) + text(0, 64-b.to)
			inside := a.from <= b.from && b.to <= a.to
			if ok := checkAny(t, head+b.fresh(y), 3); ok == inside {
				t.Fatalf("window %v behind %v: %v", b, a, ok)
			}
			if ok := checkAny(t, head+a.again(y), 3); ok != strings.Contains(y[a.from:a.to], "1") {
				t.Fatalf("%s within %v: %v", y, a, ok)
			}
		}
	}
}

func Test5_1DecodeOfATurnOfNothing(t *testing.T) {
	for _, m := range windows() {
		x := text(0, m.from) + strings.Repeat("1", m.to-m.from) + text(0, 64-m.to)
		zero := text(0, 64)
		checkNone(t, reader(zero+m.fresh(zero)), 2)
		checkNone(t, reader(zero+m.fresh(x)+m.again(zero)), 3)
		checkNone(t, reader(zero+m.fresh(x)+m.fresh(zero)), 3)
		checkValues(t, reader(zero+m.fresh(x)+"0"), 3, []uint64{0, number(x), number(x)}, 0)
	}
}

func Test5_1DecodeTellsNewMemory(t *testing.T) {
	w := bits.NewWriter()
	want := []uint64{4, 5, 6, 8, 100}
	xorv.Encode(w, want)
	b := w.Bytes()
	kept := slices.Clone(b)
	left := 8*len(b) - w.Len()
	first, _ := xorv.Decode(bits.NewReader(b), 5)
	for i := range first[:cap(first)] {
		first[:cap(first)][i] = 99
	}
	checkValues(t, bits.NewReader(b), 5, want, left)
	if !slices.Equal(b, kept) {
		t.Fatal("changed", b)
	}
}

func Test5_2WhatIsToldIsRead(t *testing.T) {
	for _, l := range rows() {
		w := bits.NewWriter()
		xorv.Encode(w, l)
		b := w.Bytes()
		checkValues(t, bits.NewReader(b), len(l), l, 8*len(b)-w.Len())
	}
	for _, a := range edges() {
		for _, b := range edges() {
			for _, c := range edges() {
				l := []uint64{a, a ^ b, a ^ b ^ c, a ^ b, a}
				checkValues(t, reader(encoded(l)), 5, l, 0)
			}
		}
	}
}

func Test5_2LongRowsAreReadToo(t *testing.T) {
	m := mixer(4)
	for _, by := range []int{1, 2, 50, 1 << 20, math.MaxInt} {
		l := make([]uint64, 65535)
		for i := range l {
			l[i] = uint64(m.below(by)) * 0x10001
		}
		w := bits.NewWriter()
		xorv.Encode(w, l)
		b := w.Bytes()
		checkValues(t, bits.NewReader(b), len(l), l, 8*len(b)-w.Len())
	}
}

func Test5_2AnyFewBitsAreOneRowOrNone(t *testing.T) {
	ahead := text(math.MaxUint64-2, 64)
	small := model{23, 25}.fresh(text(3<<39, 64))
	for v := range uint64(1 << 13) {
		for n := 2; n <= 4; n++ {
			checkAny(t, ahead+text(v, 13), n)
			checkAny(t, ahead+small+text(v, 13), n)
		}
	}
}

// form tells a turn in any form, mostly one that has room for it.
func form(m *mixer, x string, open model) (string, model) {
	next := own(x + "1")
	switch next.to = min(next.to, 64); m.below(8) {
	case 0:
		next = model{m.below(next.from + 1), 64 - m.below(65-next.to)}
	case 1:
		next = model{m.below(32), 64}
	case 2:
		return "0", open
	default:
		if open.to > 0 && open.holds(x) {
			return open.again(x), open
		}
	}
	return next.fresh(x), next
}

func Test5_2AnyBitsAreOneRowOrNone(t *testing.T) {
	m := mixer(2)
	count := [2]int{}
	for range 20000 {
		s := text(m.some(), 64)
		n := m.below(6)
		var open model
		for range n {
			var x string
			x, open = form(&m, text(m.some(), 64), open)
			s += x
		}
		switch m.below(8) {
		case 0:
			s = s[:m.below(len(s))]
		case 1:
			at := m.below(len(s))
			s = s[:at] + turned(s[at:at+1], "1") + s[at+1:]
		}
		if checkAny(t, s, n+1) {
			count[1]++
		} else {
			count[0]++
		}
	}
	if count[0] < 2000 || count[1] < 2000 {
		t.Fatal("too few of a kind were tried", count)
	}
}

func Test5_2OtherValuesAreToldOtherwise(t *testing.T) {
	seen := map[string]int{}
	few := []uint64{0, 1, 2, 3, 1 << 32, 3 << 32, 1 << 62, 1 << 63, math.MaxUint64}
	for _, a := range few {
		for _, b := range few {
			for _, c := range few {
				w := bits.NewWriter()
				xorv.Encode(w, []uint64{a, b, c})
				seen[string(w.Bytes())]++
			}
		}
	}
	if want := len(few) * len(few) * len(few); len(seen) != want {
		t.Fatalf("%d rows are told in %d forms", want, len(seen))
	}
}

func Test5_3NoCallPanics(t *testing.T) {
	counts := []int{math.MinInt, -1, 0, 1, 2, 3, 100, 65535, 65536, math.MaxInt}
	m := mixer(3)
	for size := range 40 {
		for _, fill := range []byte{0, 1, 2, 0x7f, 0x80, 0xaa, 0xc0, 0xff} {
			b := slices.Repeat([]byte{fill}, size)
			if fill == 1 || fill == 2 {
				for i := range b {
					b[i] = byte(m.next())
				}
			}
			for _, n := range counts {
				r := bits.NewReader(b)
				r.Get(m.below(9))
				for range 3 {
					l, ok := xorv.Decode(r, n)
					want := 0
					if ok {
						want = max(0, min(n, 65535))
					}
					if len(l) != want {
						t.Fatal(b, n, len(l), ok)
					}
				}
			}
		}
	}
	for _, l := range append(rows(), make([]uint64, 0, 5)) {
		w := bits.NewWriter()
		xorv.Encode(w, l)
		xorv.Encode(w, l)
	}
}
