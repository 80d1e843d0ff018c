package time_test

import (
	"math"
	"math/big"
	"slices"
	"strconv"
	"strings"
	"testing"

	"ephemeris/bits"
	"ephemeris/time"
)

// The model beside which the package is held: bits are a text of 0s and 1s, and numbers are of any size.

// form is one way to tell d, for those d from least to most that no form ahead of it is for.
type form struct {
	mark        string
	bits        uint
	least, most int64
}

func forms() []form {
	return []form{
		{"0", 0, 0, 0},
		{"10", 7, -64, 63},
		{"110", 9, -256, 255},
		{"1110", 12, -2048, 2047},
		{"1111", 64, math.MinInt64, math.MaxInt64},
	}
}

// formOf tells the first form that d may be told in.
func formOf(d int64) int {
	return slices.IndexFunc(forms(), func(f form) bool { return f.least <= d && d <= f.most })
}

// round brings n to where it stands on a ring of 2^64, as a number with a sign.
func round(n *big.Int) int64 {
	all := new(big.Int).Lsh(big.NewInt(1), 64)
	n = new(big.Int).Mod(n, all)
	if n.BitLen() == 64 {
		n.Sub(n, all)
	}
	return n.Int64()
}

// text is the n lowest bits of v.
func text(v int64, n uint) string {
	if n == 0 {
		return ""
	}
	s := strings.Repeat("0", 64) + strconv.FormatUint(uint64(v), 2)
	return s[len(s)-int(n):]
}

// number is what text made s of.
func number(s string) int64 {
	if s == "" {
		return 0
	}
	n, ok := new(big.Int).SetString(s, 2)
	if !ok {
		panic(s)
	}
	if s[0] == '1' {
		n.Sub(n, new(big.Int).Lsh(big.NewInt(1), uint(len(s))))
	}
	return n.Int64()
}

func told(f int, d int64) string {
	return forms()[f].mark + text(d, forms()[f].bits)
}

// encoded is Encode by hand.
func encoded(l []int64) string {
	var s strings.Builder
	step := big.NewInt(0)
	for i, x := range l {
		if i == 0 {
			s.WriteString(text(x, 64))
			continue
		}
		next := new(big.Int).Sub(big.NewInt(x), big.NewInt(l[i-1]))
		d := round(new(big.Int).Sub(next, step))
		s.WriteString(told(formOf(d), d))
		step = next
	}
	return s.String()
}

// cut takes n bits off s, where there are so many.
func cut(s *string, n int) (string, bool) {
	if len(*s) < n {
		return "", false
	}
	head := (*s)[:n]
	*s = (*s)[n:]
	return head, true
}

// decoded is Decode by hand, of n that is not too great: the times, and what is left of s.
func decoded(s string, n int) (l []int64, rest string, ok bool) {
	at, step := big.NewInt(0), big.NewInt(0)
	for i := range n {
		if i == 0 {
			head, ok := cut(&s, 64)
			if !ok {
				return nil, "", false
			}
			at = big.NewInt(number(head))
		} else {
			f := slices.IndexFunc(forms(), func(f form) bool { return strings.HasPrefix(s, f.mark) })
			if f < 0 {
				return nil, "", false
			}
			cut(&s, len(forms()[f].mark))
			body, ok := cut(&s, int(forms()[f].bits))
			d := number(body)
			if !ok || formOf(d) != f {
				return nil, "", false
			}
			step = new(big.Int).Add(step, big.NewInt(d))
			at = new(big.Int).Add(at, step)
		}
		l = append(l, round(at))
	}
	return l, s, true
}

// mixer makes numbers that look like any, the same ones in each run.
type mixer uint64

func (m *mixer) next() uint64 {
	*m += 0x9e3779b97f4a7c15
	z := uint64(*m)
	z = (z ^ z>>30) * 0xbf58476d1ce4e5b9
	z = (z ^ z>>27) * 0x94d049bb133111eb
	return z ^ z>>31
}

// some tells a number of any length, with a sign.
func (m *mixer) some() int64 {
	return int64(m.next()) >> (m.next() % 64)
}

// edges are numbers beside each end of each form.
func edges() []int64 {
	l := []int64{0, 1, -1, 1 << 31, 1 << 32, -1 << 31, -1 << 32, math.MaxInt64, math.MinInt64, math.MaxInt64 - 1, math.MinInt64 + 1, 1 << 62, -1 << 62}
	for _, n := range []int64{63, 64, 127, 128, 255, 256, 511, 512, 2047, 2048, 4095, 4096} {
		for by := int64(-2); by <= 2; by++ {
			l = append(l, n+by, -n+by)
		}
	}
	return l
}

// rows are rows of times of many kinds.
func rows() [][]int64 {
	m := mixer(1)
	l := [][]int64{nil, {}, {0}, {-1}, {math.MinInt64}, {math.MaxInt64}}
	for _, n := range []int{2, 3, 10, 100} {
		even, jitter, any, far := make([]int64, n), make([]int64, n), make([]int64, n), make([]int64, n)
		for i := range n {
			even[i] = 1_700_000_000_000 + int64(i)*1000
			jitter[i] = even[i] + int64(m.next()%300)
			any[i] = m.some()
			far[i] = int64(m.next())
		}
		rise := slices.Clone(any)
		slices.Sort(rise)
		fall := slices.Clone(rise)
		slices.Reverse(fall)
		l = append(l, even, jitter, any, far, rise, fall, make([]int64, n))
	}
	return l
}

// put puts a text of bits.
func put(w *bits.Writer, s string) {
	for _, x := range s {
		w.Put(uint64(x-'0'), 1)
	}
}

// get tells, as a text, the n bits that r has next.
func get(r *bits.Reader, n int) string {
	var s strings.Builder
	for range n {
		s.WriteByte('0' + byte(r.Get(1)))
	}
	return s.String()
}

// reader is a reader with these bits left and no others: what fills the bytes is ahead of them, and passed.
func reader(s string) *bits.Reader {
	w := bits.NewWriter()
	ahead := (8 - len(s)%8) % 8
	put(w, strings.Repeat("1", ahead)+s)
	r := bits.NewReader(w.Bytes())
	r.Get(ahead)
	return r
}

func checkEncode(t *testing.T, l []int64, want string) {
	t.Helper()
	w := bits.NewWriter()
	time.Encode(w, l)
	if w.Len() != len(want) {
		t.Fatalf("%d: %d bits, not %d", l, w.Len(), len(want))
	}
	if got := get(bits.NewReader(w.Bytes()), w.Len()); got != want {
		t.Fatalf("%d: %s, not %s", l, got, want)
	}
}

// checkTimes checks that r gives these times as n ones, with so many bits left behind them.
func checkTimes(t *testing.T, r *bits.Reader, n int, want []int64, left int) {
	t.Helper()
	got, ok := time.Decode(r, n)
	if !ok || !slices.Equal(got, want) {
		t.Fatalf("%d, %v; not %d", got, ok, want)
	}
	if r.Left() != left || !r.Ok() {
		t.Fatalf("%d bits left, %v; not %d", r.Left(), r.Ok(), left)
	}
}

func checkNone(t *testing.T, r *bits.Reader, n int) {
	t.Helper()
	if got, ok := time.Decode(r, n); ok || len(got) != 0 {
		t.Fatalf("%d times are %d, %v; not false", n, got, ok)
	}
}

func Test4_1EncodeOfKnownTimes(t *testing.T) {
	zero := strings.Repeat("0", 64)
	full := strings.Repeat("1", 64)
	for _, x := range []struct {
		l    []int64
		want string
	}{
		{nil, ""},
		{[]int64{}, ""},
		{[]int64{0}, zero},
		{[]int64{-1}, full},
		{[]int64{5}, zero[:61] + "101"},
		{[]int64{math.MinInt64}, "1" + zero[:63]},
		{[]int64{math.MaxInt64}, "0" + full[:63]},
		{[]int64{0, 0}, zero + "0"},
		{[]int64{-1, -1, -1}, full + "0" + "0"},
		{[]int64{0, 1}, zero + "10" + "0000001"},
		{[]int64{0, -1}, zero + "10" + "1111111"},
		{[]int64{0, 63}, zero + "10" + "0111111"},
		{[]int64{0, -64}, zero + "10" + "1000000"},
		{[]int64{0, 64}, zero + "110" + "001000000"},
		{[]int64{0, -65}, zero + "110" + "110111111"},
		{[]int64{0, 255}, zero + "110" + "011111111"},
		{[]int64{0, -256}, zero + "110" + "100000000"},
		{[]int64{0, 256}, zero + "1110" + "000100000000"},
		{[]int64{0, -257}, zero + "1110" + "111011111111"},
		{[]int64{0, 2047}, zero + "1110" + "011111111111"},
		{[]int64{0, -2048}, zero + "1110" + "100000000000"},
		{[]int64{0, 2048}, zero + "1111" + zero[:52] + "100000000000"},
		{[]int64{0, -2049}, zero + "1111" + full[:52] + "011111111111"},
		{[]int64{0, math.MaxInt64}, zero + "1111" + "0" + full[:63]},
		{[]int64{0, math.MinInt64}, zero + "1111" + "1" + zero[:63]},
		// A difference is told by how it changes.
		{[]int64{0, 10, 20, 30}, zero + "10" + "0001010" + "0" + "0"},
		{[]int64{0, 10, 21}, zero + "10" + "0001010" + "10" + "0000001"},
		{[]int64{0, 10, 10}, zero + "10" + "0001010" + "10" + "1110110"},
		{[]int64{0, 10, 0, 10}, zero + "10" + "0001010" + "10" + "1101100" + "10" + "0010100"},
		{[]int64{0, 2048, 4096, 6143}, zero + "1111" + zero[:52] + "100000000000" + "0" + "10" + "1111111"},
	} {
		checkEncode(t, x.l, x.want)
		checkTimes(t, reader(x.want), len(x.l), x.l, 0)
	}
}

func Test4_1EachSmallChange(t *testing.T) {
	for d := int64(-5000); d <= 5000; d++ {
		f := formOf(d)
		zero := strings.Repeat("0", 64)
		checkEncode(t, []int64{0, d}, zero+told(f, d))
		checkEncode(t, []int64{0, 0, d}, zero+"0"+told(f, d))
		checkEncode(t, []int64{0, 1000, 2000 + d}, zero+told(3, 1000)+told(f, d))
		checkTimes(t, reader(zero+told(f, d)+"0"), 3, []int64{0, d, 2 * d}, 0)
	}
}

func Test4_1EncodeBesideTheModel(t *testing.T) {
	for _, l := range rows() {
		checkEncode(t, l, encoded(l))
	}
	for _, a := range edges() {
		for _, b := range edges() {
			checkEncode(t, []int64{a, b}, encoded([]int64{a, b}))
		}
	}
}

func Test4_1DifferencesGoRound(t *testing.T) {
	const near, far = math.MinInt64, math.MaxInt64
	nearText, farText := text(near, 64), text(far, 64)
	checkEncode(t, []int64{near, far}, nearText+told(1, -1))
	checkEncode(t, []int64{far, near}, farText+told(1, 1))
	checkEncode(t, []int64{near, far, near}, nearText+told(1, -1)+told(1, 2))
	checkEncode(t, []int64{far - 1, far, near, near + 1}, text(far-1, 64)+told(1, 1)+"00")
	checkEncode(t, []int64{near, 0, near, 0}, nearText+told(4, near)+"00")
	checkEncode(t, []int64{0, far, near}, text(0, 64)+told(4, far)+told(4, near+2))
	ends := []int64{near, near + 1, near / 2, -1, 0, 1, far/2 + 1, far - 1, far}
	for _, a := range ends {
		for _, b := range ends {
			for _, c := range ends {
				for _, d := range ends {
					l := []int64{a, b, c, d}
					checkEncode(t, l, encoded(l))
					checkTimes(t, reader(encoded(l)), 4, l, 0)
				}
			}
		}
	}
}

func Test4_1EncodeGoesBehindWhatThereIs(t *testing.T) {
	l := []int64{7, 8, 500, 501, -1 << 40}
	for ahead := range 70 {
		w := bits.NewWriter()
		s := strings.Repeat("10", 35)[:ahead]
		put(w, s)
		time.Encode(w, nil)
		if w.Len() != ahead {
			t.Fatal("none are told in bits:", w.Len()-ahead)
		}
		time.Encode(w, l)
		time.Encode(w, l[1:])
		put(w, "011")
		s += encoded(l) + encoded(l[1:]) + "011"
		if got := get(bits.NewReader(w.Bytes()), w.Len()); got != s {
			t.Fatalf("behind %d bits: %s, not %s", ahead, got, s)
		}
		r := bits.NewReader(w.Bytes())
		r.Get(min(ahead, 64))
		r.Get(ahead - 64)
		left := r.Left()
		checkTimes(t, r, len(l), l, left-len(encoded(l)))
		checkTimes(t, r, len(l)-1, l[1:], left-len(encoded(l)+encoded(l[1:])))
	}
}

func Test4_1EncodeLeavesWhatIsHandedIn(t *testing.T) {
	room := []int64{5, 9, 1, 77, 78}
	w := bits.NewWriter()
	time.Encode(w, room[:3])
	if !slices.Equal(room, []int64{5, 9, 1, 77, 78}) {
		t.Fatal("changed", room)
	}
	clear(room)
	checkTimes(t, bits.NewReader(w.Bytes()), 3, []int64{5, 9, 1}, 8*len(w.Bytes())-w.Len())
	// Nothing is kept from one call to the next.
	checkEncode(t, []int64{5, 9}, encoded([]int64{5, 9}))
}

func Test4_1EncodeTellsAllOfALongRow(t *testing.T) {
	l := make([]int64, 70000)
	for i := range l {
		l[i] = int64(i) * 3
	}
	checkEncode(t, l, text(0, 64)+told(1, 3)+strings.Repeat("0", 69998))
}

func Test4_1DecodeReadsNoMoreThanN(t *testing.T) {
	l := []int64{3, 70, 71, 5000, 1 << 50, 1<<50 + 1}
	all := encoded(l)
	for n := range len(l) + 1 {
		checkTimes(t, reader(all), n, l[:n], len(all)-len(encoded(l[:n])))
	}
}

func Test4_1DecodeHoldsN(t *testing.T) {
	for _, n := range []int{0, -1, -65535, math.MinInt} {
		checkTimes(t, reader(""), n, nil, 0)
		checkTimes(t, reader("111"), n, nil, 3)
	}
	l := make([]int64, 65536)
	for i := range l {
		l[i] = -9 + int64(i)*2
	}
	all := text(-9, 64) + told(1, 2) + strings.Repeat("0", 69998)
	for _, n := range []int{65534, 65535, 65536, 70000, 1 << 32, math.MaxInt} {
		held := min(n, 65535)
		checkTimes(t, reader(all), n, l[:held], 70000-held)
	}
	// Of more, the first 65,535 are enough.
	checkTimes(t, reader(all[:64+9+65533]), math.MaxInt, l[:65535], 0)
	checkNone(t, reader(all[:64+9+65532]), math.MaxInt)
}

func Test4_1DecodeOfWhatEndsTooEarly(t *testing.T) {
	for _, l := range [][]int64{{1}, {1, 1}, {1, 2}, {1, 100}, {1, 1000}, {1, 10000}, {1, -5, 90, 90, 900, 1 << 40, 1 << 41, 1 << 41}} {
		s := encoded(l)
		for n := range s {
			checkNone(t, reader(s[:n]), len(l))
		}
		checkTimes(t, reader(s), len(l), l, 0)
		checkNone(t, reader(s), len(l)+1)
		checkNone(t, reader(s), math.MaxInt)
	}
	for _, s := range []string{"1", "10", "11", "110", "111", "1110", "1111", "1111" + strings.Repeat("1", 63)} {
		checkNone(t, reader(text(1, 64)+s), 2)
		checkNone(t, reader(text(1, 64)+"0"+s), 3)
	}
}

func Test4_1DecodeOfAReaderThatIsNotOk(t *testing.T) {
	for _, n := range []int{math.MinInt, -1, 0, 1, 2, 65535, math.MaxInt} {
		for _, s := range []string{"", "0", strings.Repeat("0", 64), strings.Repeat("1", 30)} {
			r := reader(s)
			for r.Ok() {
				r.Get(64)
			}
			checkNone(t, r, n)
		}
	}
	// Where the reader is read to its end and no further, none are still told.
	r := reader(strings.Repeat("1", 64))
	r.Get(64)
	checkTimes(t, r, 0, nil, 0)
}

// checkLong checks that d is told in form f where that is its shortest, and not else, ahead of others and behind them.
func checkLong(t *testing.T, f int, d int64) {
	t.Helper()
	zero := strings.Repeat("0", 64)
	for ahead := range 3 {
		s := zero + strings.Repeat("0", ahead) + told(f, d) + zero
		for behind := range 2 {
			n := 2 + ahead + behind
			if f != formOf(d) {
				checkNone(t, reader(s), n)
				continue
			}
			l := make([]int64, n)
			l[1+ahead] = d
			if behind == 1 {
				l[2+ahead] = 2 * d
			}
			checkTimes(t, reader(s), n, l, len(zero)-behind)
		}
	}
	// What is told too long is not looked at before its turn comes.
	checkTimes(t, reader(zero+"0"+told(f, d)), 2, []int64{0, 0}, len(told(f, d)))
}

func Test4_1DecodeOfWhatCouldBeToldShorter(t *testing.T) {
	for f := range forms() {
		if b := forms()[f].bits; b < 64 {
			for v := range int64(1) << b {
				checkLong(t, f, number(text(v, b)))
			}
		}
	}
	for d := int64(-5000); d <= 5000; d++ {
		checkLong(t, 4, d)
	}
	for _, d := range edges() {
		checkLong(t, 4, d)
	}
}

func Test4_1DecodeTellsNewMemory(t *testing.T) {
	w := bits.NewWriter()
	want := []int64{4, 5, 6, 8, 100}
	time.Encode(w, want)
	b := w.Bytes()
	kept := slices.Clone(b)
	left := 8*len(b) - w.Len()
	first, _ := time.Decode(bits.NewReader(b), 5)
	for i := range first[:cap(first)] {
		first[:cap(first)][i] = 99
	}
	r := bits.NewReader(b)
	checkTimes(t, r, 5, want, left)
	if !slices.Equal(b, kept) {
		t.Fatal("changed", b)
	}
}

func Test4_2WhatIsToldIsRead(t *testing.T) {
	for _, l := range rows() {
		w := bits.NewWriter()
		time.Encode(w, l)
		b := w.Bytes()
		checkTimes(t, bits.NewReader(b), len(l), l, 8*len(b)-w.Len())
	}
	for _, a := range edges() {
		for _, b := range edges() {
			l := []int64{a, b, a, a}
			checkTimes(t, reader(encoded(l)), 4, l, 0)
		}
	}
}

func Test4_2LongRowsAreReadToo(t *testing.T) {
	m := mixer(4)
	for _, by := range []uint64{1, 50, 200, 2000, 1 << 40} {
		l := make([]int64, 65535)
		at := int64(-1 << 45)
		for i := range l {
			at += 1 + int64(m.next()%by)
			l[i] = at
		}
		w := bits.NewWriter()
		time.Encode(w, l)
		b := w.Bytes()
		checkTimes(t, bits.NewReader(b), len(l), l, 8*len(b)-w.Len())
	}
}

// checkAny holds Decode of any bits to what they are by hand, and what it tells to the one form of it.
func checkAny(t *testing.T, s string, n int) bool {
	t.Helper()
	l, rest, ok := decoded(s, n)
	if !ok {
		checkNone(t, reader(s), n)
		return false
	}
	checkTimes(t, reader(s), n, l, len(rest))
	checkEncode(t, l, s[:len(s)-len(rest)])
	return true
}

func Test4_2AnyFewBitsAreOneRowOrNone(t *testing.T) {
	ahead := text(-3, 64)
	for v := range int64(1 << 14) {
		for n := 2; n <= 4; n++ {
			checkAny(t, ahead+text(v, 14), n)
		}
	}
}

func Test4_2AnyBitsAreOneRowOrNone(t *testing.T) {
	m := mixer(2)
	count := [2]int{}
	for range 5000 {
		s := text(m.some(), 64)
		n := int(m.next() % 6)
		for range n {
			d := m.some()
			f := formOf(d)
			if m.next()%8 == 0 {
				f = int(m.next() % 5)
			}
			s += told(f, d)
		}
		if m.next()%8 == 0 {
			s = s[:m.next()%uint64(len(s))]
		}
		if checkAny(t, s, n+1) {
			count[1]++
		} else {
			count[0]++
		}
	}
	if count[0] < 500 || count[1] < 500 {
		t.Fatal("too few of a kind were tried", count)
	}
}

func Test4_2OtherTimesAreToldOtherwise(t *testing.T) {
	seen := map[string]int{}
	few := []int64{math.MinInt64, -300, -64, -1, 0, 1, 63, 64, math.MaxInt64}
	for _, a := range few {
		for _, b := range few {
			for _, c := range few {
				w := bits.NewWriter()
				time.Encode(w, []int64{a, b, c})
				seen[string(w.Bytes())]++
			}
		}
	}
	if want := len(few) * len(few) * len(few); len(seen) != want {
		t.Fatalf("%d rows are told in %d forms", want, len(seen))
	}
}

func Test4_3NoCallPanics(t *testing.T) {
	counts := []int{math.MinInt, -1, 0, 1, 2, 3, 100, 65535, 65536, math.MaxInt}
	m := mixer(3)
	for size := range 40 {
		for _, fill := range []byte{0, 1, 0x7f, 0x80, 0xaa, 0xff} {
			b := slices.Repeat([]byte{fill}, size)
			if fill == 1 {
				for i := range b {
					b[i] = byte(m.next())
				}
			}
			for _, n := range counts {
				r := bits.NewReader(b)
				r.Get(int(m.next() % 9))
				for range 3 {
					l, ok := time.Decode(r, n)
					want := 0
					if ok {
						want = max(0, min(n, 65535))
					}
					if len(l) != want {
						t.Fatal(b, n, len(l), ok)
					}
				}
			}
		}
	}
	for _, l := range append(rows(), edges(), make([]int64, 0, 5)) {
		w := bits.NewWriter()
		time.Encode(w, l)
		time.Encode(w, l)
	}
}
