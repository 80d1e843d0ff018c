package chnk_test

import (
	"bytes"
	"encoding/binary"
	"fmt"
	"hash/crc32"
	"math"
	"slices"
	"testing"

	"ephemeris/api"
	"ephemeris/chnk"
	"ephemeris/suit"
)

// The model beside which the package is held: numbers by encoding/binary, sums by hash/crc32, rows by suit.

const (
	near = math.MinInt64
	far  = math.MaxInt64
	top  = math.MaxUint64
)

// tags are all that have a codec; others are such as have none.
var (
	tags   = []int{api.TXor, api.TSimple, api.TRuns, api.TFrame, api.TDict, api.TSame}
	others = []int{math.MinInt, -256, -255, -1, 0, 7, 8, 129, 255, 256, 257, 262, 1 << 32, 1<<32 + 1, math.MaxInt}
	castag = crc32.MakeTable(crc32.Castagnoli)
)

// edges are times, rising.
var edges = []int64{near, near + 1, -1 << 62, -8193, -8192, -65, -64, -1, 0, 1, 63, 64, 8191, 8192, 1 << 62, far - 1, far}

// row is a row of values at the times 0, 1, 2 and so on.
func row(v ...uint64) []api.Sample {
	l := make([]api.Sample, len(v))
	for i, x := range v {
		l[i] = api.Sample{T: int64(i), V: x}
	}
	return l
}

// at is a row of noughts at these times.
func at(t ...int64) []api.Sample {
	l := make([]api.Sample, len(t))
	for i, x := range t {
		l[i].T = x
	}
	return l
}

// clock is a row of n noughts.
func clock(n int) []api.Sample {
	return row(make([]uint64, n)...)
}

// summed is bytes with these four behind, the highest first.
func summed(b []byte, sum uint32) []byte {
	return binary.BigEndian.AppendUint32(bytes.Clone(b), sum)
}

// sealed is bytes with their sum behind.
func sealed(b ...byte) []byte {
	return summed(b, crc32.Checksum(b, castag))
}

// header is a head of any numbers.
func header(tag byte, count uint64, from, to int64) []byte {
	b := binary.AppendUvarint([]byte{tag}, count)
	return binary.AppendVarint(binary.AppendVarint(b, from), to)
}

// made is Make by hand.
func made(tag int, l []api.Sample) ([]byte, bool) {
	b, ok := suit.Encode(tag, l)
	if !ok || len(l) == 0 {
		return nil, false
	}
	head := header(byte(tag), uint64(len(l)), l[0].T, l[len(l)-1].T)
	return sealed(append(head, b...)...), true
}

// number is the number that b begins with, in as few bytes as may be, and what is behind it.
func number(b []byte) (uint64, []byte, bool) {
	u, at := binary.Uvarint(b)
	if at <= 0 || at > 1 && b[at-1] == 0 {
		return 0, nil, false
	}
	return u, b[at:], true
}

// unfolded is the number of which a number without a sign was made.
func unfolded(u uint64) int64 {
	n, _ := binary.Varint(binary.AppendUvarint(nil, u))
	return n
}

// begun is Head by hand, and what is behind it.
func begun(b []byte) (api.Head, []byte, bool) {
	if len(b) == 0 || !slices.Contains(tags, int(b[0])) {
		return api.Head{}, nil, false
	}
	count, rest, one := number(b[1:])
	from, rest, two := number(rest)
	to, rest, three := number(rest)
	h := api.Head{Tag: int(b[0]), Count: int(count), From: unfolded(from), To: unfolded(to)}
	if !one || !two || !three || count < 1 || count > 65535 || h.To < h.From {
		return api.Head{}, nil, false
	}
	return h, rest, true
}

// opened is Open by hand. It asks what must hold of the bytes themselves, and makes nothing again.
func opened(b []byte) ([]api.Sample, int, bool) {
	if len(b) < 4 || !bytes.Equal(sealed(b[:len(b)-4]...), b) {
		return nil, 0, false
	}
	h, rest, ok := begun(b[:len(b)-4])
	if !ok {
		return nil, 0, false
	}
	l, ok := suit.Decode(h.Tag, rest, h.Count)
	if !ok || l[0].T != h.From || l[len(l)-1].T != h.To {
		return nil, 0, false
	}
	return l, h.Tag, true
}

// mixer makes numbers that look like any, the same ones in each run.
type mixer uint64

func (m *mixer) next() uint64 {
	*m += 0x9e3779b97f4a7c15
	z := uint64(*m)
	z = (z ^ z>>30) * 0xbf58476d1ce4e5b9
	z = (z ^ z>>27) * 0x94d049bb133111eb
	return z ^ z>>31
}

// below tells a number of 0 to n-1.
func (m *mixer) below(n int) int {
	return int(m.next() % uint64(n))
}

// some tells a row of so many samples; three kinds of rows, so that each codec can tell many.
func (m *mixer) some(n int) []api.Sample {
	l := make([]api.Sample, n)
	now, size := int64(m.next())>>(2+m.below(60)), m.below(44)
	few, kind, up := m.next()>>m.below(64), m.below(3), m.below(64)
	for i := range l {
		l[i] = api.Sample{T: now, V: few}
		now += 1 + int64(m.next()>>(20+size))
		switch kind {
		case 1:
			l[i].V += m.next() % 100
		case 2:
			l[i].V = m.next() >> up
		}
	}
	return l
}

// any tells a row of a few samples, one at least, mostly few.
func (m *mixer) any() []api.Sample {
	return m.some(1 + m.below(10)*(1+m.below(3)*m.below(10)))
}

// show tells what a list begins with, and how long it is.
func show[T any](l []T) string {
	if len(l) > 40 {
		return fmt.Sprintf("%v.. (%d)", l[:40], len(l))
	}
	return fmt.Sprintf("%v", l)
}

func checkUnmade(t *testing.T, tag int, l []api.Sample) {
	t.Helper()
	if got, ok := chnk.Make(tag, l); ok || len(got) != 0 {
		t.Fatalf("Make(%d, %s) is %s, %t; it can't be made", tag, show(l), show(got), ok)
	}
}

func checkOpen(t *testing.T, b []byte, want []api.Sample, tag int) {
	t.Helper()
	if got, k, ok := chnk.Open(b); !ok || k != tag || !slices.Equal(got, want) {
		t.Fatalf("Open(%s) is %s, %d, %t; not %s, %d", show(b), show(got), k, ok, show(want), tag)
	}
}

func checkNone(t *testing.T, b []byte) {
	t.Helper()
	if got, k, ok := chnk.Open(b); ok || k != 0 || len(got) != 0 {
		t.Fatalf("Open(%s) is %s, %d, %t; there is none", show(b), show(got), k, ok)
	}
}

func checkHead(t *testing.T, b []byte, want api.Head) {
	t.Helper()
	if got, ok := chnk.Head(b); !ok || got != want {
		t.Fatalf("Head(%s) is %v, %t; not %v", show(b), got, ok, want)
	}
}

func checkHeadless(t *testing.T, b []byte) {
	t.Helper()
	if got, ok := chnk.Head(b); ok || got != (api.Head{}) {
		t.Fatalf("Head(%s) is %v, %t; there is none", show(b), got, ok)
	}
}

// checkChunk holds that these bytes are made of l, and opened as it.
func checkChunk(t *testing.T, tag int, l []api.Sample, b []byte) {
	t.Helper()
	if got, ok := chnk.Make(tag, l); !ok || !bytes.Equal(got, b) {
		t.Fatalf("Make(%d, %s) is %s, %t; not %s", tag, show(l), show(got), ok, show(b))
	}
	checkOpen(t, b, l, tag)
	checkHead(t, b, api.Head{Tag: tag, Count: len(l), From: l[0].T, To: l[len(l)-1].T})
}

// checkMade holds Make of a row to the model, and Open and Head to that; it tells whether it can be made.
func checkMade(t *testing.T, tag int, l []api.Sample) bool {
	t.Helper()
	b, ok := made(tag, l)
	if !ok {
		checkUnmade(t, tag, l)
		return false
	}
	checkChunk(t, tag, l, b)
	return true
}

// checkAnyHead holds Head of any bytes to the model; it tells whether they begin with one.
func checkAnyHead(t *testing.T, b []byte) bool {
	t.Helper()
	want, _, ok := begun(b)
	if !ok {
		checkHeadless(t, b)
		return false
	}
	checkHead(t, b, want)
	return true
}

// checkAny holds Open and Head of any bytes to the model; it tells whether they are a chunk.
func checkAny(t *testing.T, b []byte) bool {
	t.Helper()
	checkAnyHead(t, b)
	want, tag, ok := opened(b)
	if !ok {
		checkNone(t, b)
		return false
	}
	checkChunk(t, tag, want, b)
	return true
}

// eachChunk goes through the chunks of a row by each codec that can.
func eachChunk(l []api.Sample, do func(tag int, b []byte)) {
	for _, tag := range tags {
		if b, ok := made(tag, l); ok {
			do(tag, b)
		}
	}
}

func Test11_1KnownChunks(t *testing.T) {
	one := []byte{1, 2, 2, 8, 0, 0, 0, 0, 0, 0, 0, 1}
	three := []byte{3, 0, 4, 10, 0, 0, 0, 0, 0, 0, 0, 0, 0x80, 0x80}
	l, k := []api.Sample{{T: 1, V: 5}}, row(5, 7, 5)
	for _, x := range []struct {
		tag        int
		l          []api.Sample
		head, rest []byte
	}{
		{api.TXor, l, one, []byte{0, 0, 0, 0, 0, 0, 0, 5, 0xa8, 0x6a, 0xcc, 0xe6}},
		{api.TSimple, l, one, []byte{0x50, 0, 0, 0, 0, 0, 0, 10, 0x7f, 0x11, 0xb4, 0x73}},
		{api.TRuns, l, one, []byte{1, 5, 0x83, 0xf1, 0x25, 0x26}},
		{api.TFrame, l, one, []byte{5, 0, 0xcb, 0xce, 0xd5, 0x10}},
		{api.TDict, l, one, []byte{1, 5, 0xd7, 0x3b, 0x5d, 0xd1}},
		{api.TSame, l, one, []byte{5, 0x92, 0x23, 0xd0, 0x87}},
		{api.TXor, k, three, []byte{0, 0, 0, 0, 0, 0, 0, 5, 0xfe, 0xf8, 0, 0, 0, 0x0c, 0, 0, 0, 0x02, 0xb0, 0x2f, 0x68, 0xbd}},
		{api.TSimple, k, three, []byte{0x50, 0, 0, 0, 0, 0, 3, 0x4a, 0x65, 0xf7, 0xa0, 0xdb}},
		{api.TRuns, k, three, []byte{1, 5, 1, 7, 1, 5, 0x8f, 0xfe, 0x21, 0x46}},
		{api.TFrame, k, three, []byte{5, 2, 0x20, 0x8c, 0xf2, 0x5a, 0xf5}},
		{api.TDict, k, three, []byte{2, 5, 7, 0x40, 0x04, 0x38, 0x7d, 0xdd}},
	} {
		checkChunk(t, x.tag, x.l, slices.Concat([]byte{byte(x.tag)}, x.head, x.rest))
	}
	checkUnmade(t, api.TSame, k)
}

func Test11_1CountsOfMoreBytes(t *testing.T) {
	for _, x := range []struct {
		n     int
		count []byte
	}{
		{1, []byte{1}}, {2, []byte{2}}, {126, []byte{126}}, {127, []byte{127}},
		{128, []byte{0x80, 1}}, {129, []byte{0x81, 1}}, {300, []byte{0xac, 2}}, {16383, []byte{0xff, 0x7f}},
		{16384, []byte{0x80, 0x80, 1}}, {65534, []byte{0xfe, 0xff, 3}}, {65535, []byte{0xff, 0xff, 3}},
	} {
		l := clock(x.n)
		for _, tag := range tags {
			b, _ := made(tag, l)
			if !bytes.HasPrefix(b, append([]byte{byte(tag)}, x.count...)) {
				t.Fatal(tag, x.n, show(b))
			}
			checkChunk(t, tag, l, b)
		}
	}
}

// tail is what a chunk of a row of noughts has between its head and its sum, by TSame.
func tail(l []api.Sample) []byte {
	b, _ := suit.Encode(api.TSame, l)
	return b
}

func Test11_1TheFirstAndTheLastTime(t *testing.T) {
	ones, noughts := bytes.Repeat([]byte{0xff}, 8), bytes.Repeat([]byte{0x80}, 8)
	ends := [][]byte{
		append(bytes.Clone(ones), 0xff, 1), slices.Concat([]byte{0xfd}, ones, []byte{1}), append(bytes.Clone(ones), 0x7f),
		{0x81, 0x80, 1}, {0xff, 0x7f}, {0x81, 1}, {0x7f}, {1}, {0}, {2}, {0x7e}, {0x80, 1}, {0xfe, 0x7f}, {0x80, 0x80, 1},
		append(bytes.Clone(noughts), 0x80, 1), slices.Concat([]byte{0xfc}, ones, []byte{1}), slices.Concat([]byte{0xfe}, ones, []byte{1}),
	}
	for i, from := range edges {
		checkChunk(t, api.TSame, at(from), sealed(slices.Concat([]byte{6, 1}, ends[i], ends[i], tail(at(from)))...))
		for k := i + 1; k < len(edges); k++ {
			l := at(from, edges[k])
			checkChunk(t, api.TSame, l, sealed(slices.Concat([]byte{6, 2}, ends[i], ends[k], tail(l))...))
			for j := i + 1; j < k; j++ {
				l := at(from, edges[j], edges[k])
				checkChunk(t, api.TSame, l, sealed(slices.Concat([]byte{6, 3}, ends[i], ends[k], tail(l))...))
			}
		}
	}
}

func Test11_1MakeOfNone(t *testing.T) {
	for _, tag := range slices.Concat(tags, others) {
		checkUnmade(t, tag, nil)
		checkUnmade(t, tag, []api.Sample{})
		checkUnmade(t, tag, row(5, 6)[:0])
	}
}

func Test11_1MakeOfOtherTags(t *testing.T) {
	m := mixer(1)
	for _, tag := range others {
		checkUnmade(t, tag, row(5))
		checkUnmade(t, tag, row(5, 5, 5))
		for range 20 {
			checkUnmade(t, tag, m.any())
		}
	}
}

func Test11_1MakeOfRowsThatDoNotRise(t *testing.T) {
	m := mixer(2)
	long := clock(65536)
	lists := [][]api.Sample{at(0, 0), at(1, 0), at(far, near), at(0, far, near), at(0, 2, 1, 3), long, at(5, 5, 5, 5)}
	for range 100 {
		l := m.some(2 + m.below(12))
		i := 1 + m.below(len(l)-1)
		l[i].T = l[i-1].T - int64(m.below(3))
		lists = append(lists, l)
	}
	for _, l := range lists {
		for _, tag := range tags {
			checkUnmade(t, tag, l)
		}
	}
	for _, tag := range tags {
		checkMade(t, tag, long[1:])
	}
}

func Test11_1MakeWhereSuitCant(t *testing.T) {
	unlike := make([]uint64, 257)
	for i := range unlike {
		unlike[i] = uint64(i)
	}
	for _, x := range []struct {
		tag int
		l   []api.Sample
		ok  bool
	}{
		{api.TSimple, row(1 << 59), false},
		{api.TSimple, row(1<<59 - 1), true},
		{api.TSimple, row(0, 0, top), true},
		{api.TSimple, row(0, 0, 1<<63), false},
		{api.TDict, row(unlike...), false},
		{api.TDict, row(unlike[1:]...), true},
		{api.TSame, row(5, 6), false},
		{api.TSame, row(5, 5), true},
		{api.TXor, row(unlike...), true},
		{api.TRuns, row(unlike...), true},
		{api.TFrame, row(0, top), true},
	} {
		if checkMade(t, x.tag, x.l) != x.ok {
			t.Fatal(x.tag, show(x.l))
		}
	}
}

func Test11_1MakeBesideTheModel(t *testing.T) {
	m := mixer(3)
	seen := map[int]int{}
	for range 2000 {
		l := m.any()
		for _, tag := range tags {
			if checkMade(t, tag, l) {
				seen[tag]++
			}
		}
	}
	for _, tag := range tags {
		if seen[tag] < 200 {
			t.Fatal("too few of a kind were tried", seen)
		}
	}
}

func Test11_1MakeLeavesWhatIsHandedIn(t *testing.T) {
	m := mixer(4)
	for range 200 {
		l := m.any()
		room := append(slices.Clone(l), row(4, 4)...)
		want := slices.Clone(room)
		for _, tag := range tags {
			b, ok := chnk.Make(tag, room[:len(l)])
			kept := bytes.Clone(b)
			all := b[:cap(b)]
			for i := range all {
				all[i] = 0x55
			}
			if !slices.Equal(room, want) {
				t.Fatalf("changed: %s, not %s", show(room), show(want))
			}
			if ok {
				checkChunk(t, tag, l, kept)
			}
		}
	}
}

func Test11_1HeadOfEachTag(t *testing.T) {
	for tag := range 256 {
		b := []byte{byte(tag), 3, 1, 4}
		if tag >= 1 && tag <= 6 {
			checkHead(t, b, api.Head{Tag: tag, Count: 3, From: -1, To: 2})
		} else {
			checkHeadless(t, b)
		}
	}
}

func Test11_1HeadOfEachCount(t *testing.T) {
	for n := range uint64(66000) {
		b := header(3, n, 4, 5)
		if n >= 1 && n <= 65535 {
			checkHead(t, b, api.Head{Tag: 3, Count: int(n), From: 4, To: 5})
		} else {
			checkHeadless(t, b)
		}
	}
	for up := 16; up < 64; up++ {
		for _, n := range []uint64{1 << up, 1<<up + 1, 1<<up + 65535, -(1 << up) & top, 1 - 1<<up&top, top, 1<<63 + 1} {
			checkHeadless(t, header(3, n, 4, 5))
		}
	}
}

func Test11_1HeadOfTimes(t *testing.T) {
	for i, from := range edges {
		for k, to := range edges {
			for _, n := range []int{1, 2, 65535} {
				b := header(1, uint64(n), from, to)
				if i <= k {
					checkHead(t, b, api.Head{Tag: 1, Count: n, From: from, To: to})
				} else {
					checkHeadless(t, b)
				}
			}
		}
	}
}

func Test11_1HeadOfWhatEndsTooEarly(t *testing.T) {
	checkHeadless(t, nil)
	checkHeadless(t, []byte{})
	for _, b := range [][]byte{{1, 1, 0, 0}, header(6, 300, -300, 300), header(2, 65535, near, far), header(5, 1, far, far)} {
		for end := range b {
			// What lies in the spare room behind is no part of what is read.
			checkHeadless(t, b[:end])
		}
		if !checkAnyHead(t, b) {
			t.Fatal(b)
		}
	}
}

func Test11_1HeadOfLongerNumbers(t *testing.T) {
	numbers := [][]byte{{3}, {1}, {4}}
	for i := range numbers {
		for more := range 12 {
			longer := slices.Clone(numbers)
			longer[i] = append([]byte{numbers[i][0] | 0x80}, append(bytes.Repeat([]byte{0x80}, more), 0)...)
			checkHeadless(t, append([]byte{1}, slices.Concat(longer...)...))
		}
		// Ten bytes may have 64 bits, no more; and no number has eleven.
		for _, last := range []byte{2, 3, 0x7f, 0x80, 0xff} {
			longer := slices.Clone(numbers)
			longer[i] = append(bytes.Repeat([]byte{0xff}, 9), last, 0)
			checkHeadless(t, append([]byte{1}, slices.Concat(longer...)...))
		}
	}
	longest := slices.Concat([]byte{1, 3, 1, 0xfe}, bytes.Repeat([]byte{0xff}, 8), []byte{1})
	checkHead(t, longest, api.Head{Tag: 1, Count: 3, From: -1, To: far})
}

func Test11_1HeadOfWhateverStandsBehind(t *testing.T) {
	m := mixer(5)
	for range 500 {
		l := m.any()
		from, to := l[0].T, l[len(l)-1].T
		b := header(byte(1+m.below(6)), uint64(len(l)), from, to)
		want := api.Head{Tag: int(b[0]), Count: len(l), From: from, To: to}
		checkHead(t, b, want)
		for _, rest := range [][]byte{{0}, {0x80}, {0xff}, {1, 2, 3, 4}, make([]byte, 100), bytes.Repeat([]byte{0xff}, 100), b} {
			checkHead(t, slices.Concat(b, rest), want)
		}
	}
}

func Test11_1HeadOfAnyBytes(t *testing.T) {
	few := []byte{0, 1, 2, 3, 6, 7, 0x80, 0xff}
	count := [2]int{}
	for size := range 7 {
		b := make([]byte, size)
		for i := range 1 << (3 * size) {
			for k := range b {
				b[k] = few[i>>(3*k)&7]
			}
			if checkAnyHead(t, b) {
				count[1]++
			} else {
				count[0]++
			}
		}
	}
	if count[0] < 1000 || count[1] < 1000 {
		t.Fatal("too few of a kind were tried", count)
	}
}

func Test11_1OpenOfTurnedBits(t *testing.T) {
	m := mixer(6)
	for range 30 {
		eachChunk(m.any(), func(tag int, b []byte) {
			for i := range 8 * len(b) {
				turned := bytes.Clone(b)
				turned[i/8] ^= 1 << (i % 8)
				checkNone(t, turned)
			}
			for range 50 {
				// Whatever is turned within 32 neighbouring bits makes another sum.
				turned, i, by := bytes.Clone(b), m.below(len(b)-3), 1+m.below(1<<32-1)
				for k := range 4 {
					turned[i+k] ^= byte(by >> (8 * k))
				}
				checkNone(t, turned)
			}
		})
	}
}

func Test11_1OpenOfAnotherSum(t *testing.T) {
	m := mixer(7)
	for range 200 {
		eachChunk(m.any(), func(tag int, b []byte) {
			body := b[:len(b)-4]
			sum := crc32.Checksum(body, castag)
			for _, wrong := range []uint32{
				0, ^sum, sum + 1, sum - 1, sum<<8 | sum>>24, sum<<16 | sum>>16,
				sum>>24 | sum>>8&0xff00 | sum<<8&0xff0000 | sum<<24,
				crc32.ChecksumIEEE(body), crc32.Checksum(body[1:], castag), crc32.Checksum(b, castag),
				uint32(m.next()),
			} {
				if wrong != sum {
					checkNone(t, summed(body, wrong))
				}
			}
			checkNone(t, body)
			checkNone(t, append(summed(body, sum), b[len(body):]...))
			checkNone(t, sealed(b...))
		})
	}
}

func Test11_1OpenOfWhatEndsElsewhere(t *testing.T) {
	m := mixer(8)
	for range 60 {
		l := m.any()
		eachChunk(l, func(tag int, b []byte) {
			body := b[:len(b)-4]
			for end := range b {
				// What lies in the spare room behind is no part of what is read.
				checkNone(t, b[:end])
				if end < len(body) {
					checkNone(t, sealed(body[:end]...))
				}
			}
			for _, rest := range [][]byte{{0}, {1}, {0x80}, {0xff}, {0, 0, 0, 0}, b, body} {
				checkNone(t, slices.Concat(b, rest))
				checkNone(t, slices.Concat(rest, b))
				checkNone(t, sealed(slices.Concat(body, rest)...))
				checkNone(t, sealed(slices.Concat(rest, body)...))
			}
			checkOpen(t, append(bytes.Clone(b), 1, 2, 3)[:len(b)], l, tag)
		})
	}
}

func Test11_1OpenOfAnotherHead(t *testing.T) {
	m := mixer(9)
	for range 100 {
		l := m.any()
		n, from, to := uint64(len(l)), l[0].T, l[len(l)-1].T
		for _, tag := range tags {
			b, ok := suit.Encode(tag, l)
			if !ok {
				continue
			}
			with := func(tag byte, n uint64, from, to int64) []byte {
				return sealed(append(header(tag, n, from, to), b...)...)
			}
			checkOpen(t, with(byte(tag), n, from, to), l, tag)
			for _, x := range []int64{from - 1, from + 1, to - 1, to + 1, -from, -to, near, far, 0, 1, l[n/2].T} {
				if x != from {
					checkNone(t, with(byte(tag), n, x, to))
				}
				if x != to {
					checkNone(t, with(byte(tag), n, from, x))
				}
				if x != from || x != to {
					checkNone(t, with(byte(tag), n, x, x))
				}
			}
			for _, x := range []uint64{0, 1, n - 1, n + 1, n + 2, n + 65536, n + 1<<32, n + 1<<63, 65535, 65536, top} {
				if x != n {
					checkNone(t, with(byte(tag), x, from, to))
				}
			}
			for other := range 256 {
				if other < 1 || other > 6 {
					checkNone(t, with(byte(other), n, from, to))
				} else {
					checkAny(t, with(byte(other), n, from, to))
				}
			}
		}
	}
}

func Test11_1OpenOfLongerNumbers(t *testing.T) {
	m := mixer(10)
	for range 100 {
		l := m.any()
		size := len(header(1, uint64(len(l)), l[0].T, l[len(l)-1].T))
		eachChunk(l, func(tag int, b []byte) {
			body := b[:len(b)-4]
			for at := 1; at < size; at++ {
				if body[at] < 0x80 {
					longer := slices.Concat(body[:at], []byte{body[at] | 0x80, 0}, body[at+1:])
					checkNone(t, sealed(longer...))
				}
			}
		})
	}
}

func Test11_1OpenOfNoSamples(t *testing.T) {
	for tag := range byte(9) {
		for _, b := range [][]byte{
			nil, {tag}, {tag, 0}, {tag, 0, 0}, {tag, 0, 0, 0}, {tag, 0, 0, 0, 0}, {tag, 0, 0, 0, 0, 0},
			{tag, 0, 0}, {tag, 1, 0, 0}, {tag, 1, 0, 0, 0}, {0}, {tag, 0, 0},
		} {
			checkNone(t, b)
			checkNone(t, sealed(b...))
		}
	}
	// The sum of nothing is 0.
	for n := range 40 {
		checkNone(t, make([]byte, n))
		checkNone(t, bytes.Repeat([]byte{0xff}, n))
		checkNone(t, sealed(make([]byte, n)...))
	}
}

func Test11_1OpenOfAHeadThatEndsInTheSum(t *testing.T) {
	seen := map[int]int{}
	for tag := range byte(7) {
		for x := range byte(128) {
			for _, body := range [][]byte{{tag}, {tag, x}, {tag, 1, x}, {tag, x, 1}, {tag, 0x80 | x, 1, 0}} {
				b := sealed(body...)
				if checkAnyHead(t, b) && !checkAnyHead(t, body) {
					seen[len(body)]++
				}
				checkNone(t, b)
			}
		}
	}
	for size := 2; size < 5; size++ {
		if seen[size] == 0 {
			t.Fatal("too few of a kind were tried", seen)
		}
	}
}

func Test11_1OpenOfRowsToldOtherwise(t *testing.T) {
	head := []byte{3, 0, 4, 10, 0, 0, 0, 0, 0, 0, 0, 0, 0x80, 0x80}
	for _, x := range []struct {
		tag  int
		rest []byte
		want []api.Sample
	}{
		{api.TSame, []byte{5}, row(5, 5, 5)},
		{api.TSame, []byte{0x85, 0}, nil},
		{api.TRuns, []byte{1, 5, 2, 6}, row(5, 6, 6)},
		{api.TRuns, []byte{1, 5, 2, 5}, nil},
		{api.TFrame, []byte{5, 1, 0x20}, row(5, 5, 6)},
		{api.TFrame, []byte{5, 1, 0}, nil},
		{api.TDict, []byte{2, 5, 6, 0x40}, row(5, 6, 5)},
		{api.TDict, []byte{2, 5, 6, 0x80}, nil},
		{api.TSimple, []byte{0x50, 0, 0, 0, 0, 0, 0, 10}, row(5, 5, 5)},
		{api.TSimple, []byte{0x60, 0, 0, 0, 0, 0, 0, 10}, nil},
		{api.TXor, []byte{0, 0, 0, 0, 0, 0, 0, 5, 0}, row(5, 5, 5)},
		{api.TXor, []byte{0, 0, 0, 0, 0, 0, 0, 5, 0x20}, nil},
	} {
		b := sealed(slices.Concat([]byte{byte(x.tag)}, head, x.rest)...)
		if x.want == nil {
			checkNone(t, b)
		} else {
			checkChunk(t, x.tag, x.want, b)
		}
	}
	// Times that stand still, or fall: 0, 0 and 5, 4.
	checkNone(t, sealed(6, 2, 0, 0, 9, 0, 0, 0, 0, 0, 0, 0, 0, 0, 7))
	checkNone(t, sealed(6, 2, 10, 8, 10, 0, 0, 0, 0, 0, 0, 0, 5, 0xbf, 0x80, 7))
	checkNone(t, sealed(6, 2, 8, 10, 10, 0, 0, 0, 0, 0, 0, 0, 5, 0xbf, 0x80, 7))
}

func Test11_1OpenTellsNewMemory(t *testing.T) {
	m := mixer(11)
	for range 100 {
		l := m.any()
		eachChunk(l, func(tag int, b []byte) {
			room := append(bytes.Clone(b), 5, 5, 5, 5)
			want := bytes.Clone(room)
			got, _, _ := chnk.Open(room[:len(b)])
			all := got[:cap(got)]
			for i := range all {
				all[i] = api.Sample{T: -1, V: top}
			}
			chnk.Head(room[:len(b)])
			chnk.Open(room[:len(b)-1])
			if !bytes.Equal(room, want) {
				t.Fatalf("changed: %s, not %s", show(room), show(want))
			}
			got, _, _ = chnk.Open(room[:len(b)])
			for i := range room {
				room[i] = 0x55
			}
			if !slices.Equal(got, l) {
				t.Fatalf("%s, not %s", show(got), show(l))
			}
		})
	}
}

func Test11_2WhatIsMadeIsOpened(t *testing.T) {
	m := mixer(12)
	for range 2000 {
		l := m.any()
		for _, tag := range tags {
			b, ok := chnk.Make(tag, l)
			if ok {
				checkOpen(t, b, l, tag)
			} else if tag == api.TXor || tag == api.TRuns || tag == api.TFrame {
				t.Fatalf("%s is not made by %d", show(l), tag)
			}
		}
	}
}

func Test11_2LongRowsAreOpenedToo(t *testing.T) {
	m := mixer(13)
	for _, n := range []int{65535, 65534, 40000} {
		for range 6 {
			l := m.some(n)
			eachChunk(l, func(tag int, b []byte) {
				checkChunk(t, tag, l, b)
				b[m.below(len(b))] ^= 1 << m.below(8)
				checkNone(t, b)
			})
		}
	}
}

func Test11_2OtherRowsAreOtherChunks(t *testing.T) {
	m := mixer(14)
	seen := map[string][]api.Sample{}
	for range 500 {
		l := m.some(1 + m.below(3))
		for i := range l {
			l[i] = api.Sample{T: l[0].T%4 + int64(i), V: l[i].V % 4}
		}
		for _, tag := range tags {
			b, ok := chnk.Make(tag, l)
			if kept, is := seen[string(b)]; ok && is && !slices.Equal(kept, l) {
				t.Fatal(kept, l, b)
			}
			if ok {
				seen[string(b)] = l
			}
		}
	}
}

func Test11_2AnyFewBytesAreOneChunkOrNone(t *testing.T) {
	few := []byte{0, 1, 2, 3, 5, 6, 8, 0x80}
	for size := range 6 {
		b := make([]byte, size)
		for i := range 1 << (3 * size) {
			for k := range b {
				b[k] = few[i>>(3*k)&7]
			}
			checkAny(t, b)
			checkAny(t, sealed(b...))
		}
	}
}

func Test11_2AnyHeadAheadOfARowIsAChunkOrNone(t *testing.T) {
	rows := [][]byte{
		{8, 0, 0, 0, 0, 0, 0, 0, 1, 1, 5},
		{10, 0, 0, 0, 0, 0, 0, 0, 0, 0x80, 0x80, 2, 5},
		{10, 0, 0, 0, 0, 0, 0, 0, 0, 0x80, 0x80, 3, 5},
		{10, 0, 0, 0, 0, 0, 0, 0, 0, 0x80, 0x80, 1, 5},
	}
	count := 0
	for i := range 1 << 12 {
		head := []byte{byte(i & 7), byte(i >> 3 & 7), byte(i >> 6 & 7), byte(i >> 9)}
		for _, x := range rows {
			if checkAny(t, sealed(slices.Concat(head, x)...)) {
				count++
			}
		}
	}
	if count < 6 {
		t.Fatal("too few were chunks", count)
	}
}

func Test11_2AnyBytesAreOneChunkOrNone(t *testing.T) {
	m := mixer(15)
	count := [2]int{}
	for range 20000 {
		tag, l := tags[m.below(6)], m.any()
		b, ok := made(tag, l)
		if !ok {
			continue
		}
		b = b[:len(b)-4]
		switch m.below(7) {
		case 0:
			b = b[:m.below(len(b)+1)]
		case 1:
			b = append(b, byte(m.next()), byte(m.below(4)))
		case 2:
			b[m.below(len(b))] ^= 1 << m.below(8)
		case 3:
			at := m.below(len(b) - 1)
			b[at], b[at+1] = b[at+1], b[at]
		case 4:
			b[0] = byte(m.below(8))
		case 5:
			b[len(b)-1-m.below(4)] = byte(m.next())
		}
		if checkAny(t, sealed(b...)) {
			count[1]++
		} else {
			count[0]++
		}
	}
	if count[0] < 3000 || count[1] < 3000 {
		t.Fatal("too few of a kind were tried", count)
	}
}

func Test11_2EachTurnOfOneBitIsAnotherChunkOrNone(t *testing.T) {
	m := mixer(16)
	for range 12 {
		l := m.some(1 + m.below(25))
		eachChunk(l, func(tag int, b []byte) {
			for i := range 8 * (len(b) - 4) {
				turned := bytes.Clone(b[:len(b)-4])
				turned[i/8] ^= 1 << (i % 8)
				turned = sealed(turned...)
				checkAny(t, turned)
				if got, k, ok := chnk.Open(turned); ok && k == tag && slices.Equal(got, l) {
					t.Fatalf("%s is opened of %s, too, by %d", show(l), show(turned), tag)
				}
			}
		})
	}
}

func Test11_3NoCallPanics(t *testing.T) {
	m := mixer(17)
	for size := range 60 {
		lists := [][]byte{nil, make([]byte, size), bytes.Repeat([]byte{0xff}, size), bytes.Repeat([]byte{0x80}, size), bytes.Repeat([]byte{1}, size)}
		for range 100 {
			b := make([]byte, size)
			for i := range b {
				b[i] = byte(m.next()) >> m.below(8)
			}
			if size > 4 {
				b[0], b[1] = byte(m.below(8)), byte(m.below(size))
			}
			lists = append(lists, b)
		}
		for _, b := range lists {
			for _, b := range [][]byte{b, sealed(b...)} {
				l, tag, ok := chnk.Open(b)
				h, is := chnk.Head(b)
				if ok && (!is || len(l) != h.Count || tag != h.Tag) || !ok && (tag != 0 || len(l) != 0) {
					t.Fatal(b, l, tag, h)
				}
			}
		}
		l := make([]api.Sample, size)
		for i := range l {
			l[i] = api.Sample{T: int64(m.next()), V: m.next()}
		}
		for _, tag := range slices.Concat(others, tags) {
			if b, ok := chnk.Make(tag, l); ok && !suit.Rising(l) || !ok && len(b) != 0 {
				t.Fatal(tag, l, b, ok)
			}
		}
	}
}
