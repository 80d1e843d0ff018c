package suit_test

import (
	"bytes"
	"encoding/binary"
	"fmt"
	"math"
	"slices"
	"testing"

	"ephemeris/api"
	"ephemeris/bits"
	"ephemeris/dict"
	"ephemeris/forp"
	"ephemeris/runl"
	"ephemeris/simp"
	"ephemeris/suit"
	"ephemeris/time"
	"ephemeris/xorv"
)

// The model beside which the package is held: each part by its own package, numbers by encoding/binary.

const (
	near = math.MinInt64
	far  = math.MaxInt64
	top  = math.MaxUint64
)

// tags are all that have a codec; others are such as have none.
var (
	tags   = []int{api.TXor, api.TSimple, api.TRuns, api.TFrame, api.TDict, api.TSame}
	others = []int{math.MinInt, -1, 0, 7, 8, 9, 15, 255, 256, 257, 1 << 32, 1<<32 + 1, math.MaxInt}
)

// row is a row of values at the times 0, 1, 2 and so on.
func row(v ...uint64) []api.Sample {
	l := make([]api.Sample, len(v))
	for i, x := range v {
		l[i] = api.Sample{T: int64(i), V: x}
	}
	return l
}

// at is a row of noughts at these times.
func at(t ...int64) []api.Sample {
	l := make([]api.Sample, len(t))
	for i, x := range t {
		l[i].T = x
	}
	return l
}

// rises is Rising by hand.
func rises(l []api.Sample) bool {
	ok := len(l) < 65536
	for i := 1; i < len(l); i++ {
		ok = ok && l[i-1].T < l[i].T
	}
	return ok
}

// timeBits is the times of a row, whether or not they rise.
func timeBits(l []api.Sample) *bits.Writer {
	var t []int64
	for _, s := range l {
		t = append(t, s.T)
	}
	w := bits.NewWriter()
	time.Encode(w, t)
	return w
}

// times is bytes of the times of a row.
func times(l []api.Sample) []byte {
	return timeBits(l).Bytes()
}

// xorBits is the values of a row by what turns.
func xorBits(l []api.Sample) *bits.Writer {
	var v []uint64
	for _, s := range l {
		v = append(v, s.V)
	}
	w := bits.NewWriter()
	xorv.Encode(w, v)
	return w
}

// sized is bytes behind how many there are.
func sized(b []byte) []byte {
	return append(binary.AppendUvarint(nil, uint64(len(b))), b...)
}

// folded is a difference as a number without a sign.
func folded(d uint64) uint64 {
	if d>>63 == 0 {
		return 2 * d
	}
	return -(2 * d) - 1
}

// unfolded is the difference of which folded made u.
func unfolded(u uint64) uint64 {
	if u%2 == 0 {
		return u / 2
	}
	return -(u / 2) - 1
}

// values is bytes of the values of a row, whether or not its times rise.
func values(tag int, l []api.Sample) ([]byte, bool) {
	var v, steps []uint64
	for i, s := range l {
		v = append(v, s.V)
		steps = append(steps, folded(s.V-v[max(0, i-1)]))
		if i == 0 {
			steps[0] = folded(s.V)
		}
	}
	switch tag {
	case 1:
		return xorBits(l).Bytes(), true
	case 2:
		var b []byte
		words, ok := simp.Encode(steps)
		for _, x := range words {
			b = binary.BigEndian.AppendUint64(b, x)
		}
		return b, ok
	case 3:
		return runl.Encode(v), true
	case 4:
		return forp.Encode(v), true
	case 5:
		return dict.Encode(v)
	case 6:
		if len(v) == 0 {
			return nil, true
		}
		return binary.AppendUvarint(nil, v[0]), slices.Max(v) == slices.Min(v)
	}
	return nil, false
}

// form is bytes of a row, whether or not its times rise.
func form(tag int, l []api.Sample) ([]byte, bool) {
	v, ok := values(tag, l)
	if !ok {
		return nil, false
	}
	return append(sized(times(l)), v...), true
}

// encoded is Encode by hand.
func encoded(tag int, l []api.Sample) ([]byte, bool) {
	if !rises(l) {
		return nil, false
	}
	return form(tag, l)
}

// number is the number that b begins with, in as few bytes as may be, and what is behind it.
func number(b []byte) (uint64, []byte, bool) {
	u, at := binary.Uvarint(b)
	if at <= 0 || at > 1 && b[at-1] == 0 {
		return 0, nil, false
	}
	return u, b[at:], true
}

// ended tells whether nothing is left but 0s that fill the last byte.
func ended(r *bits.Reader) bool {
	left := r.Left()
	return left < 8 && r.Get(left) == 0
}

// valuesOf is n values of these bytes, all of them.
func valuesOf(tag int, b []byte, n int) ([]uint64, bool) {
	switch tag {
	case 1:
		r := bits.NewReader(b)
		v, ok := xorv.Decode(r, n)
		return v, ok && ended(r)
	case 2:
		var words []uint64
		for i := 0; i+8 <= len(b); i += 8 {
			words = append(words, binary.BigEndian.Uint64(b[i:]))
		}
		v, ok := simp.Decode(words, n)
		sum := uint64(0)
		for i, x := range v {
			sum += unfolded(x)
			v[i] = sum
		}
		return v, ok && len(b)%8 == 0
	case 3:
		return runl.Decode(b, n)
	case 4:
		return forp.Decode(b, n)
	case 5:
		return dict.Decode(b, n)
	case 6:
		if n == 0 {
			return nil, len(b) == 0
		}
		x, rest, ok := number(b)
		return slices.Repeat([]uint64{x}, n), ok && len(rest) == 0
	}
	return nil, false
}

// decoded is Decode by hand. It asks what must hold of the bytes themselves, and tells nothing again.
func decoded(tag int, b []byte, n int) ([]api.Sample, bool) {
	if n < 0 || n > 65535 {
		return nil, false
	}
	size, rest, ok := number(b)
	if !ok || size > uint64(len(rest)) {
		return nil, false
	}
	r := bits.NewReader(rest[:size])
	t, ok := time.Decode(r, n)
	if !ok || !ended(r) {
		return nil, false
	}
	v, ok := valuesOf(tag, rest[size:], n)
	if !ok {
		return nil, false
	}
	var l []api.Sample
	for i := range n {
		l = append(l, api.Sample{T: t[i], V: v[i]})
	}
	return l, rises(l)
}

// mixer makes numbers that look like any, the same ones in each run.
type mixer uint64

func (m *mixer) next() uint64 {
	*m += 0x9e3779b97f4a7c15
	z := uint64(*m)
	z = (z ^ z>>30) * 0xbf58476d1ce4e5b9
	z = (z ^ z>>27) * 0x94d049bb133111eb
	return z ^ z>>31
}

// below tells a number of 0 to n-1.
func (m *mixer) below(n int) int {
	return int(m.next() % uint64(n))
}

// clock puts n times at a row, which rise: the gaps of most are alike, mostly.
func (m *mixer) clock(l []api.Sample) {
	now := int64(m.next()) >> (2 + m.below(60))
	gap := 1 + m.below(1000)
	wild := m.below(3)
	for i := range l {
		l[i].T = now
		now += int64(gap)
		if m.below(4) < wild {
			now += int64(m.next() >> (20 + m.below(44)))
		}
	}
}

// some tells a row of so many values that are such as one of the codecs is for.
func (m *mixer) some(n int) []api.Sample {
	l := make([]api.Sample, n)
	m.clock(l)
	base, up := m.next()>>m.below(64), m.below(64)
	few := []uint64{m.next(), m.next() >> up, base}
	kind := m.below(6)
	for i := range l {
		switch kind {
		case 0:
			l[i].V = m.next() >> up
		case 1:
			base += uint64(m.below(64)) - 20
			l[i].V = base
		case 2:
			if m.below(8) == 0 {
				base = m.next() >> up
			}
			l[i].V = base
		case 3:
			l[i].V = base + m.next()%1000
		case 4:
			l[i].V = few[m.below(3)]
		default:
			l[i].V = base
		}
	}
	return l
}

// any tells a row of a few samples, mostly.
func (m *mixer) any() []api.Sample {
	return m.some(m.below(10) * (1 + m.below(3)*m.below(10)))
}

// show tells what a list begins with, and how long it is.
func show[T any](l []T) string {
	if len(l) > 24 {
		return fmt.Sprintf("%v.. (%d)", l[:24], len(l))
	}
	return fmt.Sprintf("%v", l)
}

func checkEncode(t *testing.T, tag int, l []api.Sample, want []byte) {
	t.Helper()
	if got, ok := suit.Encode(tag, l); !ok || !bytes.Equal(got, want) {
		t.Fatalf("Encode(%d, %s) is %s, %t; not %s", tag, show(l), show(got), ok, show(want))
	}
}

func checkUntold(t *testing.T, tag int, l []api.Sample) {
	t.Helper()
	if got, ok := suit.Encode(tag, l); ok || len(got) != 0 {
		t.Fatalf("Encode(%d, %s) is %s, %t; it can't be told", tag, show(l), show(got), ok)
	}
}

func checkRow(t *testing.T, tag int, b []byte, n int, want []api.Sample) {
	t.Helper()
	if got, ok := suit.Decode(tag, b, n); !ok || !slices.Equal(got, want) {
		t.Fatalf("Decode(%d, %s, %d) is %s, %t; not %s", tag, show(b), n, show(got), ok, show(want))
	}
}

func checkNone(t *testing.T, tag int, b []byte, n int) {
	t.Helper()
	if got, ok := suit.Decode(tag, b, n); ok || len(got) != 0 {
		t.Fatalf("Decode(%d, %s, %d) is %s, %t; there is none", tag, show(b), n, show(got), ok)
	}
}

// checkBoth holds that l is told by these bytes, and that these are read as l.
func checkBoth(t *testing.T, tag int, l []api.Sample, b []byte) {
	t.Helper()
	checkEncode(t, tag, l, b)
	checkRow(t, tag, b, len(l), l)
}

// checkTold holds Encode of a row to the model, and Decode to that; it tells whether the tag's codec can.
func checkTold(t *testing.T, tag int, l []api.Sample) bool {
	t.Helper()
	b, ok := encoded(tag, l)
	if !ok {
		checkUntold(t, tag, l)
		return false
	}
	checkBoth(t, tag, l, b)
	return true
}

// checkAny holds Decode of any bytes to the model; it tells whether they are a row.
func checkAny(t *testing.T, tag int, b []byte, n int) bool {
	t.Helper()
	want, ok := decoded(tag, b, n)
	if !ok {
		checkNone(t, tag, b, n)
		return false
	}
	checkRow(t, tag, b, n, want)
	checkEncode(t, tag, want, b)
	return true
}

// eachForm goes through the bytes of a row in each codec that can.
func eachForm(l []api.Sample, do func(tag int, b []byte)) {
	for _, tag := range tags {
		if b, ok := encoded(tag, l); ok {
			do(tag, b)
		}
	}
}

func Test10_1RisingOfFew(t *testing.T) {
	edges := []int64{near, near + 1, -1 << 62, -2, -1, 0, 1, 2, 1 << 32, 1 << 62, far - 1, far}
	if !suit.Rising(nil) || !suit.Rising([]api.Sample{}) {
		t.Fatal("none")
	}
	for i, a := range edges {
		if !suit.Rising(at(a)) {
			t.Fatal(a)
		}
		for k, b := range edges {
			if suit.Rising(at(a, b)) != (i < k) {
				t.Fatal(a, b)
			}
			for j, c := range edges {
				if suit.Rising(at(a, b, c)) != (i < k && k < j) {
					t.Fatal(a, b, c)
				}
			}
		}
	}
}

func Test10_1RisingDoesNotHangOnValues(t *testing.T) {
	for _, v := range [][]uint64{{0, 0, 0}, {3, 2, 1}, {1, 2, 3}, {top, 0, top}, {1 << 63, 5, 5}} {
		l := row(v...)
		if !suit.Rising(l) {
			t.Fatal(l)
		}
		l[2].T = 1
		if suit.Rising(l) {
			t.Fatal(l)
		}
	}
}

func Test10_1RisingOfMany(t *testing.T) {
	long := make([]api.Sample, 70000)
	for i := range long {
		long[i].T = int64(i) - 30000
	}
	for n, want := range map[int]bool{65534: true, 65535: true, 65536: false, 65537: false, 70000: false} {
		if suit.Rising(long[:n]) != want {
			t.Fatal(n)
		}
	}
	for _, i := range []int{1, 2, 100, 32767, 32768, 65533, 65534} {
		kept := long[i].T
		for _, x := range []int64{long[i-1].T, long[i-1].T - 1, near, far} {
			long[i].T = x
			if suit.Rising(long[:65535]) != (x == far && i == 65534) {
				t.Fatal(i, x)
			}
		}
		long[i].T = kept
	}
}

func Test10_1KnownRowsOfEachTag(t *testing.T) {
	clock := []byte{10, 0, 0, 0, 0, 0, 0, 0, 0, 0x80, 0x80}
	behind := func(b ...byte) []byte { return append(slices.Clone(clock), b...) }
	for _, x := range []struct {
		l    []api.Sample
		want [6][]byte
	}{
		{nil, [6][]byte{{0}, {0}, {0}, {0}, {0}, {0}}},
		{[]api.Sample{}, [6][]byte{{0}, {0}, {0}, {0}, {0}, {0}}},
		{[]api.Sample{{T: 1, V: 5}}, [6][]byte{
			{8, 0, 0, 0, 0, 0, 0, 0, 1, 0, 0, 0, 0, 0, 0, 0, 5},
			{8, 0, 0, 0, 0, 0, 0, 0, 1, 0x50, 0, 0, 0, 0, 0, 0, 10},
			{8, 0, 0, 0, 0, 0, 0, 0, 1, 1, 5},
			{8, 0, 0, 0, 0, 0, 0, 0, 1, 5, 0},
			{8, 0, 0, 0, 0, 0, 0, 0, 1, 1, 5},
			{8, 0, 0, 0, 0, 0, 0, 0, 1, 5},
		}},
		{row(5, 5, 5), [6][]byte{
			behind(0, 0, 0, 0, 0, 0, 0, 5, 0),
			behind(0x50, 0, 0, 0, 0, 0, 0, 10),
			behind(3, 5),
			behind(5, 0),
			behind(1, 5),
			behind(5),
		}},
		{row(5, 7, 5), [6][]byte{
			// 11, 11111, 011111, and 32 bits of which the last one turns; then 10, and these again.
			behind(0, 0, 0, 0, 0, 0, 0, 5, 0xfe, 0xf8, 0, 0, 0, 0x0c, 0, 0, 0, 0x02),
			behind(0x50, 0, 0, 0, 0, 0, 0x03, 0x4a),
			behind(1, 5, 1, 7, 1, 5),
			behind(5, 2, 0x20),
			behind(2, 5, 7, 0x40),
			nil,
		}},
		{row(300, 299, 300), [6][]byte{
			// 11, 11111, 100000, and 33 bits of which the last three turn; then 10, and these again.
			behind(0, 0, 0, 0, 0, 0, 1, 0x2c, 0xff, 0, 0, 0, 0, 0x1e, 0, 0, 0, 0x03, 0x80),
			behind(0xa0, 0, 0, 0, 0, 0x20, 0x06, 0x58),
			behind(1, 0xac, 2, 1, 0xab, 2, 1, 0xac, 2),
			behind(0xab, 2, 1, 0xa0),
			behind(2, 0xac, 2, 0xab, 2, 0x40),
			nil,
		}},
	} {
		for i, want := range x.want {
			if want == nil {
				checkUntold(t, tags[i], x.l)
			} else {
				checkBoth(t, tags[i], x.l, want)
			}
		}
	}
}

func Test10_1TimesStandAhead(t *testing.T) {
	for _, x := range []struct {
		l    []api.Sample
		want []byte
	}{
		{at(near), []byte{8, 0x80, 0, 0, 0, 0, 0, 0, 0, 0}},
		{at(far), []byte{8, 0x7f, 0xff, 0xff, 0xff, 0xff, 0xff, 0xff, 0xff, 0}},
		{at(-1, 0), []byte{10, 0xff, 0xff, 0xff, 0xff, 0xff, 0xff, 0xff, 0xff, 0x80, 0x80, 0}},
		{at(0, 64), []byte{10, 0, 0, 0, 0, 0, 0, 0, 0, 0xc4, 0, 0}},
		{at(near, far), []byte{10, 0x80, 0, 0, 0, 0, 0, 0, 0, 0xbf, 0x80, 0}},
		{at(0, 10, 20, 30, 40), []byte{10, 0, 0, 0, 0, 0, 0, 0, 0, 0x85, 0, 0}},
	} {
		checkBoth(t, api.TSame, x.l, x.want)
	}
}

func Test10_1TimesOfManyBytes(t *testing.T) {
	m := mixer(1)
	seen := map[int]int{}
	for n := 9; n < 70; n++ {
		l := make([]api.Sample, n)
		now := int64(near)
		for i := range l {
			now += int64(m.next() >> (8 + m.below(40)))
			l[i] = api.Sample{T: now, V: 9}
		}
		b := times(l)
		want := append(sized(b), 9)
		seen[len(want)-len(b)-1]++
		checkBoth(t, api.TSame, l, want)
	}
	if seen[1] == 0 || seen[2] == 0 {
		t.Fatal("too few of a kind were tried", seen)
	}
	l := make([]api.Sample, 65535)
	for i := range l {
		l[i].T = int64(i) * int64(i)
	}
	b, _ := suit.Encode(api.TSame, l)
	if size, at := binary.Uvarint(b); at != 3 || int(size) != len(b)-4 {
		t.Fatal(size, at, len(b))
	}
}

func Test10_1SimpleGoesByDifferences(t *testing.T) {
	for _, x := range []struct {
		v     []uint64
		words []uint64
	}{
		{[]uint64{0}, []uint64{2 << 60}},
		{[]uint64{1}, []uint64{3<<60 | 2}},
		{[]uint64{top}, []uint64{2<<60 | 1}},
		{[]uint64{top, 0}, []uint64{3<<60 | 1 | 2<<2}},
		{[]uint64{0, top, 0}, []uint64{3<<60 | 1<<2 | 2<<4}},
		{[]uint64{top - 1, 1}, []uint64{4<<60 | 3 | 6<<3}},
		{[]uint64{10, 11, 12, 13}, []uint64{6<<60 | 20 | 2<<5 | 2<<10 | 2<<15}},
		{[]uint64{1000, 999, 998}, []uint64{11<<60 | 2000 | 1<<12 | 1<<24}},
		{[]uint64{1 << 58, 1 << 58}, []uint64{15<<60 | 1<<59, 2 << 60}},
		{[]uint64{1<<59 - 1}, []uint64{15<<60 | (1<<60 - 2)}},
		{[]uint64{-(1 << 59) & top}, []uint64{15<<60 | (1<<60 - 1)}},
		{[]uint64{1<<58 + 7, 7}, []uint64{15<<60 | (1<<59 + 14), 15<<60 | (1<<59 - 1)}},
	} {
		l := row(x.v...)
		want := sized(times(l))
		for _, w := range x.words {
			want = binary.BigEndian.AppendUint64(want, w)
		}
		checkBoth(t, api.TSimple, l, want)
	}
	l := row(make([]uint64, 240)...)
	checkBoth(t, api.TSimple, l, append(sized(times(l)), make([]byte, 8)...))
}

func Test10_1SimpleOfTooFar(t *testing.T) {
	m := mixer(2)
	for range 300 {
		from := m.next()
		for _, step := range []uint64{0, 1 << 58, 1<<59 - 1, 1 << 59, 1<<59 + 1, 1 << 60, 1 << 62, 1<<63 - 1, 1 << 63} {
			for _, d := range []uint64{step, -step} {
				ok := d < 1<<59 || d >= -(1<<59)&top
				if checkTold(t, api.TSimple, row(d)) != ok {
					t.Fatal(d)
				}
				l := row(d, 2*d, 3*d)
				if checkTold(t, api.TSimple, l) != ok {
					t.Fatal(l)
				}
				l = row(from%(1<<59), from%(1<<59)+d)
				if checkTold(t, api.TSimple, l) != ok {
					t.Fatal(l)
				}
			}
		}
	}
	for n := 1; n < 20; n++ {
		for i := range n {
			v := make([]uint64, n)
			for k := i; k < n; k++ {
				v[k] = 1 << 59
			}
			checkUntold(t, api.TSimple, row(v...))
			for k := i; k < n; k++ {
				v[k]--
			}
			checkTold(t, api.TSimple, row(v...))
		}
	}
}

func Test10_1DictOfTooMany(t *testing.T) {
	v := make([]uint64, 600)
	for i := range v {
		v[i] = uint64(i%256) * 0x0123456789abcdef
	}
	for _, n := range []int{255, 256, 257, 600} {
		if !checkTold(t, api.TDict, row(v[:n]...)) {
			t.Fatal(n)
		}
	}
	for _, i := range []int{256, 257, 400, 599} {
		kept := v[i]
		v[i] = 1
		checkUntold(t, api.TDict, row(v...))
		checkTold(t, api.TDict, row(v[:i]...))
		v[i] = kept
	}
}

func Test10_1SameOfUnlike(t *testing.T) {
	for bit := range 64 {
		for _, x := range []uint64{0, 1 << bit, 1<<bit - 1, top << bit} {
			for n := 1; n < 6; n++ {
				v := slices.Repeat([]uint64{x}, n)
				l := row(v...)
				checkBoth(t, api.TSame, l, binary.AppendUvarint(sized(times(l)), x))
				for i := range n {
					v[i] ^= 1 << bit
					if n > 1 {
						checkUntold(t, api.TSame, row(v...))
					}
					v[i] = x
				}
			}
		}
	}
	v := make([]uint64, 65535)
	for _, i := range []int{0, 1, 40000, 65534} {
		v[i] = 1
		checkUntold(t, api.TSame, row(v...))
		v[i] = 0
	}
}

func Test10_1EncodeOfOtherTags(t *testing.T) {
	m := mixer(3)
	for _, tag := range others {
		checkUntold(t, tag, nil)
		checkUntold(t, tag, row(5))
		checkUntold(t, tag, row(5, 5, 5))
		for range 20 {
			checkUntold(t, tag, m.any())
		}
	}
}

func Test10_1EncodeOfRowsThatDoNotRise(t *testing.T) {
	m := mixer(4)
	for range 200 {
		l := m.some(2 + m.below(20))
		i := 1 + m.below(len(l)-1)
		for _, x := range []int64{l[i-1].T, l[i-1].T - 1, near} {
			fallen := slices.Clone(l)
			fallen[i].T = x
			for _, tag := range tags {
				checkUntold(t, tag, fallen)
			}
		}
		slices.Reverse(l)
		for _, tag := range tags {
			checkUntold(t, tag, l)
		}
	}
	for _, tag := range append(tags, others...) {
		checkUntold(t, tag, at(0, 0))
		checkUntold(t, tag, at(far, near))
		checkUntold(t, tag, row(make([]uint64, 65536)...))
		checkUntold(t, tag, row(make([]uint64, 70000)...))
	}
	for _, tag := range tags {
		checkTold(t, tag, row(make([]uint64, 65535)...))
	}
}

func Test10_1EncodeBesideTheModel(t *testing.T) {
	m := mixer(5)
	told := map[int]int{}
	for i := range 3000 {
		l := m.any()
		if i%10 == 0 {
			l = m.some(m.below(600))
		}
		for tag := -1; tag < 9; tag++ {
			if checkTold(t, tag, l) {
				told[tag]++
			}
		}
	}
	for _, tag := range tags {
		if told[tag] < 500 {
			t.Fatal("too few of a kind were tried", told)
		}
	}
	if len(told) != len(tags) || told[api.TSimple] == 3000 || told[api.TDict] == 3000 {
		t.Fatal(told)
	}
}

func Test10_1WhatIsHandedInStays(t *testing.T) {
	m := mixer(6)
	for range 100 {
		l := m.any()
		room := append(slices.Clone(l), row(4, 4, 4, 4)...)
		want := slices.Clone(room)
		for _, tag := range tags {
			got, ok := suit.Encode(tag, room[:len(l)])
			kept := bytes.Clone(got)
			all := got[:cap(got)]
			for i := range all {
				all[i] = 0x55
			}
			if !slices.Equal(room, want) {
				t.Fatalf("changed: %s, not %s", show(room), show(want))
			}
			if ok {
				checkEncode(t, tag, l, kept)
			}
		}
	}
}

func Test10_1DecodeTellsNewMemory(t *testing.T) {
	m := mixer(7)
	for range 100 {
		l := m.any()
		eachForm(l, func(tag int, b []byte) {
			room := append(bytes.Clone(b), 9, 9, 9)
			want := bytes.Clone(room)
			got, _ := suit.Decode(tag, room[:len(b)], len(l))
			all := got[:cap(got)]
			for i := range all {
				all[i] = api.Sample{T: -1, V: top}
			}
			if !bytes.Equal(room, want) {
				t.Fatalf("changed: %s, not %s", show(room), show(want))
			}
			checkRow(t, tag, room[:len(b)], len(l), l)
		})
	}
}

func Test10_1DecodeOfOtherCounts(t *testing.T) {
	m := mixer(8)
	for range 200 {
		l := m.any()
		eachForm(l, func(tag int, b []byte) {
			for _, n := range []int{math.MinInt, math.MinInt32, -65536, -len(l), -1, 65536, 65537, 1<<32 + len(l), math.MaxInt} {
				if n != len(l) {
					checkNone(t, tag, b, n)
				}
			}
			for n := max(0, len(l)-10); n < len(l)+10; n++ {
				checkAny(t, tag, b, n)
			}
			if len(l) > 0 {
				checkNone(t, tag, b, 0)
				checkNone(t, tag, b, len(l)+8)
			}
		})
	}
	for _, tag := range tags {
		checkRow(t, tag, []byte{0}, 0, nil)
		// A row of one more would be told, if it were one.
		l := row(make([]uint64, 65536)...)
		b, _ := form(tag, l)
		checkNone(t, tag, b, 65536)
		checkAny(t, tag, b, 65535)
		b, _ = form(tag, l[:65535])
		checkRow(t, tag, b, 65535, l[:65535])
		checkNone(t, tag, b, 65536)
		checkNone(t, tag, b, 65535-8)
	}
}

func Test10_1DecodeOfOtherTags(t *testing.T) {
	m := mixer(9)
	for _, other := range others {
		for _, n := range []int{-1, 0, 1, 2} {
			for _, b := range [][]byte{nil, {0}, {0, 0}, {8, 0, 0, 0, 0, 0, 0, 0, 0, 0}} {
				checkNone(t, other, b, n)
			}
		}
		for range 10 {
			l := m.any()
			eachForm(l, func(tag int, b []byte) { checkNone(t, other, b, len(l)) })
		}
	}
	for range 200 {
		l := m.any()
		eachForm(l, func(_ int, b []byte) {
			for _, tag := range tags {
				checkAny(t, tag, b, len(l))
			}
		})
	}
}

func Test10_1DecodeOfTimesThatDoNotRise(t *testing.T) {
	m := mixer(10)
	lists := [][]api.Sample{at(0, 0), at(1, 0), at(far, near), at(0, far, near), at(0, 1, 1), at(0, 1, 2, 1), at(5, 5, 5, 5)}
	for range 100 {
		l := m.some(2 + m.below(12))
		i := 1 + m.below(len(l)-1)
		l[i].T = l[i-1].T - int64(m.below(3))
		lists = append(lists, l)
	}
	for _, l := range lists {
		for _, tag := range tags {
			if b, ok := form(tag, l); ok {
				checkNone(t, tag, b, len(l))
			}
		}
	}
}

func Test10_1DecodeOfAnotherSizeOfTimes(t *testing.T) {
	m := mixer(11)
	for range 100 {
		l := m.any()
		b := times(l)
		for _, tag := range tags {
			v, ok := values(tag, l)
			if !ok {
				continue
			}
			for size := range uint64(len(b) + len(v) + 12) {
				got := append(append(binary.AppendUvarint(nil, size), b...), v...)
				if checkAny(t, tag, got, len(l)) && size != uint64(len(b)) {
					// What follows might be taken for times only where it is read as others.
					other, _ := suit.Decode(tag, got, len(l))
					if slices.Equal(other, l) {
						t.Fatal(tag, size, l)
					}
				}
			}
			for _, up := range []uint64{1 << 8, 1 << 16, 1 << 31, 1 << 32, 1 << 61, 1 << 62, 1 << 63} {
				size := uint64(len(b))
				for _, wrong := range []uint64{up, up + size, up - size, up - 1, -up, -size - 1, top} {
					if wrong != size {
						checkNone(t, tag, append(append(binary.AppendUvarint(nil, wrong), b...), v...), len(l))
					}
				}
			}
		}
	}
}

func Test10_1DecodeOfALongerSizeOfTimes(t *testing.T) {
	m := mixer(12)
	for range 100 {
		l := m.any()
		eachForm(l, func(tag int, b []byte) {
			_, at := binary.Uvarint(b)
			for more := range 10 {
				longer := bytes.Clone(b[:at])
				longer[at-1] |= 0x80
				longer = append(longer, bytes.Repeat([]byte{0x80}, more)...)
				longer = append(append(longer, 0), b[at:]...)
				checkNone(t, tag, longer, len(l))
			}
		})
	}
}

func Test10_1DecodeOfBytesBehindTheTimes(t *testing.T) {
	m := mixer(13)
	for range 100 {
		l := m.any()
		b := times(l)
		for _, tag := range tags {
			v, ok := values(tag, l)
			if !ok {
				continue
			}
			for _, rest := range [][]byte{{0}, {1}, {0x80}, {0xff}, {0, 0}, make([]byte, 9)} {
				checkNone(t, tag, append(sized(append(bytes.Clone(b), rest...)), v...), len(l))
			}
			for bit := range 8*len(b) - timeBits(l).Len() {
				turned := bytes.Clone(b)
				turned[len(b)-1] |= 1 << bit
				checkNone(t, tag, append(sized(turned), v...), len(l))
			}
			for end := range b {
				checkNone(t, tag, append(sized(b[:end]), v...), len(l))
			}
		}
	}
}

func Test10_1DecodeOfBytesBehindTheValues(t *testing.T) {
	m := mixer(14)
	for range 200 {
		l := m.any()
		eachForm(l, func(tag int, b []byte) {
			for _, rest := range [][]byte{{0}, {1}, {0x80}, {0xff}, {0, 0}, {0, 1}, make([]byte, 7), make([]byte, 8), append([]byte{0x20}, make([]byte, 7)...), make([]byte, 16)} {
				checkNone(t, tag, append(bytes.Clone(b), rest...), len(l))
			}
		})
		if len(l) == 0 {
			continue
		}
		b, _ := encoded(api.TXor, l)
		for bit := range 8*len(xorBits(l).Bytes()) - xorBits(l).Len() {
			turned := bytes.Clone(b)
			turned[len(b)-1] |= 1 << bit
			checkNone(t, api.TXor, turned, len(l))
		}
	}
}

func Test10_1DecodeOfWhatEndsTooEarly(t *testing.T) {
	m := mixer(15)
	for range 200 {
		l := m.any()
		eachForm(l, func(tag int, b []byte) {
			for end := range b {
				// What lies in the spare room behind is no part of what is read.
				checkNone(t, tag, b[:end], len(l))
			}
		})
	}
	for _, tag := range tags {
		for n := range 3 {
			checkNone(t, tag, nil, n)
			checkNone(t, tag, []byte{}, n)
			checkNone(t, tag, []byte{0x80}, n)
			checkNone(t, tag, []byte{1}, n)
			checkNone(t, tag, []byte{8}, n)
		}
	}
}

func Test10_1DecodeOfValuesToldOtherwise(t *testing.T) {
	one := []byte{8, 0, 0, 0, 0, 0, 0, 0, 0}
	three := []byte{10, 0, 0, 0, 0, 0, 0, 0, 0, 0x80, 0x80}
	for _, x := range []struct {
		tag, n int
		head   []byte
		b      []byte
		want   []api.Sample
	}{
		{api.TSame, 1, one, []byte{5}, row(5)},
		{api.TSame, 1, one, []byte{0x85, 0}, nil},
		{api.TSame, 1, one, []byte{5, 5}, nil},
		{api.TSame, 1, one, nil, nil},
		{api.TSame, 3, three, []byte{5, 5, 5}, nil},
		{api.TSame, 3, three, append(bytes.Repeat([]byte{0xff}, 9), 1), row(top, top, top)},
		{api.TSame, 3, three, append(bytes.Repeat([]byte{0xff}, 9), 2), nil},
		{api.TRuns, 3, three, []byte{1, 5, 2, 5}, nil},
		{api.TRuns, 3, three, []byte{1, 5, 2, 6}, row(5, 6, 6)},
		{api.TRuns, 3, three, []byte{0, 4, 3, 5}, nil},
		{api.TFrame, 3, three, []byte{5, 1, 0}, nil},
		{api.TFrame, 3, three, []byte{5, 1, 0x20}, row(5, 5, 6)},
		{api.TFrame, 3, three, []byte{5, 65}, nil},
		{api.TDict, 3, three, []byte{2, 5, 6, 0x80}, nil},
		{api.TDict, 3, three, []byte{2, 5, 6, 0x40}, row(5, 6, 5)},
		{api.TDict, 3, three, []byte{1, 5, 0}, nil},
		{api.TSimple, 3, three, []byte{0x50, 0, 0, 0, 0, 0, 0, 10}, row(5, 5, 5)},
		{api.TSimple, 3, three, []byte{0x60, 0, 0, 0, 0, 0, 0, 10}, nil},
		{api.TSimple, 3, three, []byte{10, 0, 0, 0, 0, 0, 0, 0x50}, nil},
		{api.TSimple, 3, three, []byte{0x50, 0, 0, 0, 0, 1, 0, 10}, nil},
		{api.TSimple, 3, three, []byte{0x50, 0, 0, 0, 0, 0, 10}, nil},
		{api.TXor, 3, three, []byte{0, 0, 0, 0, 0, 0, 0, 5, 0}, row(5, 5, 5)},
		{api.TXor, 3, three, []byte{0, 0, 0, 0, 0, 0, 0, 5, 0x20}, nil},
		{api.TXor, 3, three, []byte{0, 0, 0, 0, 0, 0, 0, 5}, nil},
	} {
		b := append(bytes.Clone(x.head), x.b...)
		if x.want == nil {
			checkNone(t, x.tag, b, x.n)
		} else {
			checkBoth(t, x.tag, x.want, b)
		}
	}
}

// bestOf is Best by hand.
func bestOf(l []api.Sample) (int, []byte) {
	tag, least := 0, []byte(nil)
	for i := len(tags) - 1; i >= 0; i-- {
		if b, ok := encoded(tags[i], l); ok && (tag == 0 || len(b) <= len(least)) {
			tag, least = tags[i], b
		}
	}
	return tag, least
}

func checkBest(t *testing.T, l []api.Sample, tag int) {
	t.Helper()
	want, ok := encoded(tag, l)
	got, b := suit.Best(l)
	if got != tag || !bytes.Equal(b, want) || ok != (tag != 0) {
		t.Fatalf("Best(%s) is %d, %s; not %d, %s", show(l), got, show(b), tag, show(want))
	}
}

func Test10_2BestOfEachTag(t *testing.T) {
	m := mixer(16)
	v := make([]uint64, 1000)
	fill := func(next func(i int) uint64) []api.Sample {
		for i := range v {
			v[i] = next(i)
		}
		return row(v...)
	}
	few := []uint64{m.next(), m.next(), m.next()}
	checkBest(t, fill(func(i int) uint64 { return m.next() >> 44 << 44 }), api.TXor)
	checkBest(t, fill(func(i int) uint64 { return 1000000 + 3*uint64(i) }), api.TSimple)
	checkBest(t, fill(func(i int) uint64 { return uint64(i / 500) }), api.TRuns)
	checkBest(t, fill(func(i int) uint64 { return 7 + m.next()%500 }), api.TFrame)
	checkBest(t, fill(func(i int) uint64 { return few[m.below(3)] }), api.TDict)
	checkBest(t, fill(func(i int) uint64 { return few[0] }), api.TSame)
}

func Test10_2BestIsTheLeastTagOfSeveral(t *testing.T) {
	checkBest(t, nil, api.TXor)
	checkBest(t, []api.Sample{}, api.TXor)
	// A word of 64 bits, as xorv has it; the others are longer.
	checkBest(t, row(top), api.TXor)
	checkBest(t, row(top-1), api.TXor)
	// Eight bytes, as xorv has it, and simp.
	checkBest(t, row(1<<55), api.TXor)
	checkBest(t, row(1<<49), api.TXor)
	checkBest(t, row(1<<49-1), api.TSame)
	checkBest(t, row(5), api.TSame)
	checkBest(t, row(5, 6), api.TFrame)
	checkBest(t, row(300, 7), api.TRuns)
	checkBest(t, row(0, 0, 0, 0, 0, 0, 0, 0, 0, 1), api.TRuns)
	seen := map[string]int{}
	m := mixer(17)
	for range 4000 {
		l := m.some(m.below(12))
		tag, b := bestOf(l)
		checkBest(t, l, tag)
		for _, other := range tags {
			if again, ok := encoded(other, l); ok && other != tag && len(again) == len(b) {
				seen[fmt.Sprint(tag, other)]++
			}
		}
	}
	if len(seen) < 6 {
		t.Fatal("too few kinds were tried", seen)
	}
}

func Test10_2BestOfOthersIsNothing(t *testing.T) {
	m := mixer(18)
	checkBest(t, at(0, 0), 0)
	checkBest(t, at(1, 0), 0)
	checkBest(t, at(far, near), 0)
	checkBest(t, row(make([]uint64, 65536)...), 0)
	checkBest(t, row(make([]uint64, 65535)...), api.TSame)
	for range 300 {
		l := m.some(2 + m.below(20))
		i := 1 + m.below(len(l)-1)
		l[i].T = l[i-1].T
		checkBest(t, l, 0)
	}
}

func Test10_2BestBesideTheModel(t *testing.T) {
	m := mixer(19)
	seen := map[int]int{}
	for range 1500 {
		l := m.some(m.below(300))
		tag, _ := bestOf(l)
		seen[tag]++
		checkBest(t, l, tag)
	}
	for _, tag := range tags {
		if seen[tag] < 5 {
			t.Fatal("too few of a kind were tried", seen)
		}
	}
}

func Test10_2BestTellsNewMemory(t *testing.T) {
	m := mixer(20)
	for range 200 {
		l := m.any()
		room := append(slices.Clone(l), row(4, 4)...)
		want := slices.Clone(room)
		tag, b := suit.Best(room[:len(l)])
		kept := bytes.Clone(b)
		all := b[:cap(b)]
		for i := range all {
			all[i] = 0x55
		}
		if !slices.Equal(room, want) {
			t.Fatalf("changed: %s, not %s", show(room), show(want))
		}
		checkRow(t, tag, kept, len(l), l)
		if again, b := suit.Best(l); again != tag || !bytes.Equal(b, kept) {
			t.Fatal(tag, again)
		}
	}
}

func Test10_3WhatIsToldIsRead(t *testing.T) {
	m := mixer(21)
	for range 3000 {
		l := m.any()
		for _, tag := range tags {
			b, ok := suit.Encode(tag, l)
			if ok {
				checkRow(t, tag, b, len(l), l)
			} else if tag == api.TXor || tag == api.TRuns || tag == api.TFrame {
				t.Fatalf("%s is not told by %d", show(l), tag)
			}
		}
		tag, b := suit.Best(l)
		checkRow(t, tag, b, len(l), l)
	}
}

func Test10_3LongRowsAreReadToo(t *testing.T) {
	m := mixer(22)
	for _, n := range []int{65535, 65534, 40000} {
		for range 6 {
			l := m.some(n)
			for _, tag := range tags {
				if b, ok := suit.Encode(tag, l); ok {
					checkRow(t, tag, b, n, l)
				}
			}
			tag, b := suit.Best(l)
			checkRow(t, tag, b, n, l)
		}
	}
}

func Test10_3RowsFromEndToEndOfTime(t *testing.T) {
	edges := []int64{near, near + 1, -1 << 62, -1, 0, 1, 1 << 62, far - 1, far}
	for mask := range 1 << len(edges) {
		var l []api.Sample
		for i, x := range edges {
			if mask>>i&1 == 1 {
				l = append(l, api.Sample{T: x, V: uint64(i / 3)})
			}
		}
		for _, tag := range tags {
			checkTold(t, tag, l)
		}
	}
}

func Test10_3AnyFewBytesAreOneRowOrNone(t *testing.T) {
	few := []byte{0, 1, 2, 3, 5, 8, 0x80, 0xff}
	one := []byte{8, 0, 0, 0, 0, 0, 0, 0, 1}
	for size := range 5 {
		b := make([]byte, size)
		for i := range 1 << (3 * size) {
			for k := range b {
				b[k] = few[i>>(3*k)&7]
			}
			for tag := range 8 {
				for n := range 3 {
					checkAny(t, tag, b, n)
				}
				checkAny(t, tag, append(bytes.Clone(one), b...), 1)
			}
		}
	}
}

func Test10_3AnyTimesAreOneRowOrNone(t *testing.T) {
	for x := range 1 << 16 {
		b := []byte{10, 0, 0, 0, 0, 0, 0, 0, 0, byte(x >> 8), byte(x), 5}
		checkAny(t, api.TSame, b, 1+x%16)
		checkAny(t, api.TSame, b, 2)
		checkAny(t, api.TSame, b, 3)
	}
}

func Test10_3AnyBytesAreOneRowOrNone(t *testing.T) {
	m := mixer(23)
	count := [2]int{}
	for range 20000 {
		l := m.any()
		tag, n := tags[m.below(6)], len(l)
		b, ok := form(tag, l)
		if !ok {
			continue
		}
		switch m.below(7) {
		case 0:
			n += m.below(5) - 2
		case 1:
			b = b[:m.below(len(b)+1)]
		case 2:
			b = append(b, byte(m.next()), byte(m.below(4)))
		case 3:
			b[m.below(len(b))] ^= 1 << m.below(8)
		case 4:
			if len(b) > 1 {
				at := m.below(len(b) - 1)
				b[at], b[at+1] = b[at+1], b[at]
			}
		case 5:
			tag = 1 + m.below(6)
		}
		if checkAny(t, tag, b, n) {
			count[1]++
		} else {
			count[0]++
		}
	}
	if count[0] < 3000 || count[1] < 3000 {
		t.Fatal("too few of a kind were tried", count)
	}
}

func Test10_3EachTurnOfOneBitIsAnotherRowOrNone(t *testing.T) {
	m := mixer(24)
	for range 40 {
		l := m.some(m.below(25))
		eachForm(l, func(tag int, b []byte) {
			for i := range 8 * len(b) {
				turned := bytes.Clone(b)
				turned[i/8] ^= 1 << (i % 8)
				checkAny(t, tag, turned, len(l))
				if got, ok := suit.Decode(tag, turned, len(l)); ok && slices.Equal(got, l) {
					t.Fatalf("%s is read of %s, too, by %d", show(l), show(turned), tag)
				}
			}
		})
	}
}

func Test10_4NoCallPanics(t *testing.T) {
	m := mixer(25)
	counts := []int{math.MinInt, -1, 0, 1, 2, 7, 255, 65535, 65536, math.MaxInt}
	for size := range 40 {
		lists := [][]byte{nil, make([]byte, size), bytes.Repeat([]byte{0xff}, size), bytes.Repeat([]byte{0x80}, size), bytes.Repeat([]byte{1}, size)}
		for range 5 {
			b := make([]byte, size)
			for i := range b {
				b[i] = byte(m.next()) >> m.below(8)
			}
			if size > 0 {
				b[0] = byte(m.below(size + 1))
			}
			lists = append(lists, b)
		}
		for _, b := range lists {
			for _, tag := range append(others, tags...) {
				for _, n := range counts {
					l, ok := suit.Decode(tag, b, n)
					if ok && len(l) != n || !ok && len(l) != 0 {
						t.Fatalf("%d, %s, %d: %d samples, %t", tag, show(b), n, len(l), ok)
					}
				}
			}
		}
		l := make([]api.Sample, size)
		for i := range l {
			l[i] = api.Sample{T: int64(m.next()), V: m.next()}
		}
		rising := suit.Rising(l)
		for _, tag := range append(others, tags...) {
			if b, ok := suit.Encode(tag, l); ok && !rising || !ok && len(b) != 0 {
				t.Fatal(tag, l, b, ok)
			}
		}
		if tag, b := suit.Best(l); (tag != 0) != rising || (len(b) != 0) != rising {
			t.Fatal(tag, l, b)
		}
	}
}
