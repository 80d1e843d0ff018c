package work_test

import (
	"bytes"
	"cmp"
	"encoding/binary"
	"fmt"
	"hash/crc32"
	"math"
	"slices"
	"testing"

	"ephemeris/api"
	"ephemeris/chnk"
	"ephemeris/work"
)

// The model beside which the package is held: what it comes to by chnk, its steps counted one sample at a time.

const top = math.MaxUint64

// tags are all that have a codec; others are such as have none.
var (
	tags   = []int{api.TXor, api.TSimple, api.TRuns, api.TFrame, api.TDict, api.TSame}
	others = []int{math.MinInt, -256, -255, -1, 0, 7, 8, 129, 255, 256, 257, 262, 1 << 32, 1<<32 + 1, math.MaxInt}
)

// sizes are numbers of samples that a step is asked for, about each edge.
var sizes = []int{math.MinInt, -1 << 32, -65536, -65535, -2, -1, 0, 1, 2, 3, 4, 5, 7, 255, 256, 257, 65534, 65535, 65536, 1<<31 - 1, 1 << 31, 1<<32 - 1, 1 << 32, 1<<32 + 1, 1 << 50, math.MaxInt}

// row is a row of values at the times 0, 1, 2 and so on.
func row(v ...uint64) []api.Sample {
	l := make([]api.Sample, len(v))
	for i, x := range v {
		l[i] = api.Sample{T: int64(i), V: x}
	}
	return l
}

// clock is a row of n noughts.
func clock(n int) []api.Sample {
	return row(make([]uint64, n)...)
}

// at is a row of noughts at these times.
func at(t ...int64) []api.Sample {
	l := make([]api.Sample, len(t))
	for i, x := range t {
		l[i].T = x
	}
	return l
}

// sealed is bytes with their sum behind.
func sealed(b ...byte) []byte {
	sum := crc32.Checksum(b, crc32.MakeTable(crc32.Castagnoli))
	return binary.BigEndian.AppendUint32(bytes.Clone(b), sum)
}

// mixer makes numbers that look like any, the same ones in each run.
type mixer uint64

func (m *mixer) next() uint64 {
	*m += 0x9e3779b97f4a7c15
	z := uint64(*m)
	z = (z ^ z>>30) * 0xbf58476d1ce4e5b9
	z = (z ^ z>>27) * 0x94d049bb133111eb
	return z ^ z>>31
}

// below tells a number of 0 to n-1.
func (m *mixer) below(n int) int {
	return int(m.next() % uint64(n))
}

// some tells a row of so many samples; three kinds of rows, so that each codec can make many.
func (m *mixer) some(n int) []api.Sample {
	l := make([]api.Sample, n)
	now, size := int64(m.next())>>(2+m.below(60)), m.below(44)
	few, kind, up := m.next()>>m.below(64), m.below(3), m.below(64)
	for i := range l {
		l[i] = api.Sample{T: now, V: few}
		now += 1 + int64(m.next()>>(20+size))
		switch kind {
		case 1:
			l[i].V += m.next() % 100
		case 2:
			l[i].V = m.next() >> up
		}
	}
	return l
}

// any tells a row of a few samples, one at least, mostly few.
func (m *mixer) any() []api.Sample {
	return m.some(1 + m.below(10)*(1+m.below(3)*m.below(10)))
}

// size tells how many samples a step is asked for: some at an edge, most few.
func (m *mixer) size() int {
	if m.below(8) == 0 {
		return sizes[m.below(len(sizes))]
	}
	return 1 + m.below(1+m.below(40))
}

// each tells a way to step: always n samples.
func each(n int) func() int {
	return func() int { return n }
}

// these tells a way to step: these samples one behind the other, and 1 behind the last of them.
func these(n ...int) func() int {
	return func() int {
		if len(n) == 0 {
			return 1
		}
		k := n[0]
		n = n[1:]
		return k
	}
}

// worker is a decoder or an encoder.
type worker[T comparable] interface {
	Step(n int) bool
	Done() ([]T, bool)
	Bad() bool
}

// want is what a worker should come to: a list, of the work of so many samples, or nothing.
type want[T comparable] struct {
	list    []T
	samples int
	ok      bool
}

// unpacked is what a decoder of b should come to.
func unpacked(b []byte) want[api.Sample] {
	l, _, ok := chnk.Open(b)
	return want[api.Sample]{l, len(l), ok}
}

// packed is what an encoder of a row should come to.
func packed(tag int, l []api.Sample) want[byte] {
	b, ok := chnk.Make(tag, l)
	return want[byte]{b, len(l), ok}
}

// show tells what a list begins with, and how long it is.
func show[T any](l []T) string {
	if len(l) > 40 {
		return fmt.Sprintf("%v.. (%d)", l[:40], len(l))
	}
	return fmt.Sprintf("%v", l)
}

func checkAhead[T comparable](t *testing.T, w worker[T]) {
	t.Helper()
	if got, ok := w.Done(); ok || len(got) != 0 {
		t.Fatalf("Done is %s, %t; there is more to do", show(got), ok)
	}
	if w.Bad() {
		t.Fatal("Bad ahead of the last step")
	}
}

func checkEnded[T comparable](t *testing.T, w worker[T], x want[T]) {
	t.Helper()
	got, ok := w.Done()
	if ok != x.ok || x.ok && !slices.Equal(got, x.list) || !x.ok && len(got) != 0 {
		t.Fatalf("Done is %s, %t; not %s, %t", show(got), ok, show(x.list), x.ok)
	}
	if w.Bad() == x.ok {
		t.Fatalf("Bad is %t", w.Bad())
	}
}

// counted tells how many samples there are left behind a step of n, one by one.
func counted(left, n int) int {
	for k := 0; left > 0 && k < 65535 && (k < n || k == 0); k++ {
		left--
	}
	return left
}

// checkStep does a step and holds it to the model; it tells how many samples are left.
func checkStep[T comparable](t *testing.T, w worker[T], x want[T], left, n int) int {
	t.Helper()
	left = counted(left, n)
	if more := w.Step(n); more != (left > 0) {
		t.Fatalf("Step(%d) is %t, where %d are left of %s", n, more, left, show(x.list))
	}
	return left
}

// checkWork steps a new worker to its end and beyond, and holds all that it tells to the model; it tells how many steps it took.
func checkWork[T comparable](t *testing.T, w worker[T], x want[T], way func() int) int {
	t.Helper()
	left, steps := 1, 0
	if x.ok {
		left = x.samples
	}
	for checkAhead(t, w); left > 0; steps++ {
		left = checkStep(t, w, x, left, way())
		if left > 0 {
			checkAhead(t, w)
		}
	}
	checkEnded(t, w, x)
	for _, n := range sizes {
		if w.Step(n) {
			t.Fatalf("Step(%d) behind the last one is true", n)
		}
	}
	checkEnded(t, w, x)
	return steps
}

// checkDecoder steps a decoder of b, and holds it to the model; it tells how many steps it took.
func checkDecoder(t *testing.T, b []byte, way func() int) int {
	t.Helper()
	return checkWork(t, work.NewDecoder(b), unpacked(b), way)
}

// checkEncoder steps an encoder of a row, and holds it to the model; it tells how many steps it took.
func checkEncoder(t *testing.T, tag int, l []api.Sample, way func() int) int {
	t.Helper()
	return checkWork(t, work.NewEncoder(tag, l), packed(tag, l), way)
}

// checkNoChunk holds that a decoder of b is Bad behind one step, of whatever size.
func checkNoChunk(t *testing.T, b []byte) {
	t.Helper()
	for _, n := range sizes {
		d := work.NewDecoder(b)
		checkAhead(t, d)
		if d.Step(n) {
			t.Fatalf("Step(%d) is true; %s is no chunk", n, show(b))
		}
		checkEnded(t, d, want[api.Sample]{})
	}
}

// checkUnmade holds that an encoder of a row is Bad behind one step, of whatever size.
func checkUnmade(t *testing.T, tag int, l []api.Sample) {
	t.Helper()
	for _, n := range sizes {
		e := work.NewEncoder(tag, l)
		checkAhead(t, e)
		if e.Step(n) {
			t.Fatalf("Step(%d) is true; %s can't be made by %d", n, show(l), tag)
		}
		checkEnded(t, e, want[byte]{})
	}
}

// eachChunk goes through the chunks of a row by each codec that can.
func eachChunk(l []api.Sample, do func(tag int, b []byte)) {
	for _, tag := range tags {
		if b, ok := chnk.Make(tag, l); ok {
			do(tag, b)
		}
	}
}

// eachWay goes through all ways to part n steps of one into steps of more.
func eachWay(n int, do func(way []int)) {
	for cuts := range 1 << (n - 1) {
		way := []int{1}
		for i := range n - 1 {
			if cuts>>i&1 == 1 {
				way = append(way, 0)
			}
			way[len(way)-1]++
		}
		do(way)
	}
}

func Test12_1KnownWork(t *testing.T) {
	l := row(5, 7, 5)
	head := []byte{3, 0, 4, 10, 0, 0, 0, 0, 0, 0, 0, 0, 0x80, 0x80}
	for _, x := range []struct {
		tag  int
		rest []byte
	}{
		{api.TXor, []byte{0, 0, 0, 0, 0, 0, 0, 5, 0xfe, 0xf8, 0, 0, 0, 0x0c, 0, 0, 0, 0x02, 0xb0, 0x2f, 0x68, 0xbd}},
		{api.TSimple, []byte{0x50, 0, 0, 0, 0, 0, 3, 0x4a, 0x65, 0xf7, 0xa0, 0xdb}},
		{api.TRuns, []byte{1, 5, 1, 7, 1, 5, 0x8f, 0xfe, 0x21, 0x46}},
		{api.TFrame, []byte{5, 2, 0x20, 0x8c, 0xf2, 0x5a, 0xf5}},
		{api.TDict, []byte{2, 5, 7, 0x40, 0x04, 0x38, 0x7d, 0xdd}},
	} {
		b := slices.Concat([]byte{byte(x.tag)}, head, x.rest)
		for n, steps := range []int{3, 3, 2, 1, 1} {
			d := checkWork(t, work.NewDecoder(b), want[api.Sample]{l, 3, true}, each(n))
			e := checkWork(t, work.NewEncoder(x.tag, l), want[byte]{b, 3, true}, each(n))
			if d != steps || e != steps {
				t.Fatal(x.tag, n, d, e, "not", steps)
			}
		}
	}
	checkUnmade(t, api.TSame, l)
}

func Test12_1NewOnesAreNotDone(t *testing.T) {
	m := mixer(1)
	for range 100 {
		l := m.any()
		for _, tag := range slices.Concat(tags, others) {
			b, _ := chnk.Make(tag, l)
			checkAhead(t, work.NewDecoder(b))
			checkAhead(t, work.NewEncoder(tag, l))
		}
	}
	checkAhead(t, work.NewDecoder(nil))
	checkAhead(t, work.NewEncoder(0, nil))
}

func Test12_1AsManyStepsAsTheRowNeeds(t *testing.T) {
	for k := 1; k <= 60; k++ {
		l := clock(k)
		b, _ := chnk.Make(api.TSame, l)
		for n := -3; n <= 65; n++ {
			steps := (k + max(n, 1) - 1) / max(n, 1)
			if d := checkDecoder(t, b, each(n)); d != steps {
				t.Fatalf("a decoder of %d took %d steps of %d, not %d", k, d, n, steps)
			}
			if e := checkEncoder(t, api.TSame, l, each(n)); e != steps {
				t.Fatalf("an encoder of %d took %d steps of %d, not %d", k, e, n, steps)
			}
		}
	}
}

func Test12_1AsManyStepsInEachCodec(t *testing.T) {
	m := mixer(2)
	seen := map[int]int{}
	for range 300 {
		l := m.any()
		for _, tag := range tags {
			b, ok := chnk.Make(tag, l)
			if !ok {
				continue
			}
			n := 1 + m.below(len(l)+3)
			steps := (len(l) + n - 1) / n
			d, e := checkDecoder(t, b, each(n)), checkEncoder(t, tag, l, each(n))
			if d != steps || e != steps {
				t.Fatal(tag, len(l), n, d, e, "not", steps)
			}
			seen[tag]++
		}
	}
	for _, tag := range tags {
		if seen[tag] < 30 {
			t.Fatal("too few of a kind were tried", seen)
		}
	}
}

func Test12_1StepsAreHeldToTheirBounds(t *testing.T) {
	for _, x := range []struct{ k, n, steps int }{
		{1, math.MinInt, 1}, {1, -1, 1}, {1, 0, 1}, {1, 1, 1}, {1, math.MaxInt, 1},
		{2, math.MinInt, 2}, {2, -1, 2}, {2, 0, 2}, {2, 1, 2}, {2, 2, 1}, {2, math.MaxInt, 1},
		{300, math.MinInt, 300}, {300, -1 << 32, 300}, {300, -65536, 300}, {300, -65535, 300}, {300, 0, 300},
		{300, 299, 2}, {300, 300, 1}, {300, 1 << 16, 1}, {300, 1<<16 + 1, 1}, {300, 1 << 32, 1}, {300, 1<<32 + 1, 1}, {300, 1 << 50, 1}, {300, math.MaxInt, 1},
		{65534, 65533, 2}, {65534, 65534, 1}, {65534, 65535, 1}, {65534, 65536, 1},
		{65535, 1, 65535}, {65535, 0, 65535}, {65535, math.MinInt, 65535}, {65535, 4, 16384}, {65535, 32767, 3}, {65535, 32768, 2}, {65535, 65534, 2},
		{65535, 65535, 1}, {65535, 65536, 1}, {65535, 65537, 1}, {65535, 1<<31 - 1, 1}, {65535, 1 << 31, 1}, {65535, 1 << 32, 1}, {65535, 1<<32 + 1, 1}, {65535, math.MaxInt, 1},
	} {
		l := clock(x.k)
		b, _ := chnk.Make(api.TSame, l)
		d, e := work.NewDecoder(b), work.NewEncoder(api.TSame, l)
		for i := 1; i <= x.steps; i++ {
			if more := i < x.steps; d.Step(x.n) != more || e.Step(x.n) != more {
				t.Fatalf("step %d of %v is not %t", i, x, more)
			}
		}
		checkEnded(t, d, unpacked(b))
		checkEnded(t, e, packed(api.TSame, l))
	}
}

func Test12_1StepsOfUnlikeSizes(t *testing.T) {
	for _, x := range []struct {
		k, steps int
		way      []int
	}{
		{3, 3, []int{0, -5, 1}}, {3, 2, []int{2, 1}}, {3, 2, []int{1, 2}}, {3, 2, []int{1, 3}}, {3, 1, []int{3, 5}},
		{20, 3, []int{1, 18, 1}}, {20, 3, []int{1, 18, 7}}, {20, 2, []int{1, 19, 7}}, {20, 4, []int{1, 17, 1, 1}},
		{20, 2, []int{math.MinInt, math.MaxInt}}, {20, 3, []int{18, math.MinInt, math.MinInt}}, {20, 20, nil},
		{65535, 2, []int{1, 65534}}, {65535, 3, []int{1, 65533, 9}}, {65535, 2, []int{65534, 0}}, {65535, 2, []int{-1, math.MaxInt}},
	} {
		l := clock(x.k)
		b, _ := chnk.Make(api.TRuns, l)
		d, e := checkDecoder(t, b, these(x.way...)), checkEncoder(t, api.TRuns, l, these(x.way...))
		if d != x.steps || e != x.steps {
			t.Fatal(x, d, e)
		}
	}
}

func Test12_1BytesThatAreNoChunk(t *testing.T) {
	checkNoChunk(t, nil)
	checkNoChunk(t, []byte{})
	checkNoChunk(t, []byte{1, 2, 3})
	l := clock(300)
	for _, tag := range tags {
		b, _ := chnk.Make(tag, l)
		body := b[:len(b)-4]
		for _, x := range [][]byte{
			b[:len(b)-1], b[1:], body, append(bytes.Clone(b), 0), sealed(b...), sealed(append(bytes.Clone(body), 0)...),
			sealed(body[:len(body)-1]...), sealed(append([]byte{0}, body[1:]...)...), sealed(append([]byte{7}, body[1:]...)...),
			make([]byte, len(b)), bytes.Repeat([]byte{0xff}, len(b)), sealed(), sealed(body[:1]...), sealed(byte(tag), 0, 0, 0),
		} {
			checkNoChunk(t, x)
		}
	}
}

func Test12_1BytesThatWereTurned(t *testing.T) {
	m := mixer(3)
	for range 5 {
		eachChunk(m.some(2+m.below(40)), func(tag int, b []byte) {
			for i := range 8 * len(b) {
				turned := bytes.Clone(b)
				turned[i/8] ^= 1 << (i % 8)
				if steps := checkDecoder(t, turned, each(1)); steps != 1 {
					t.Fatal(tag, turned, steps)
				}
			}
			for end := range b {
				// What lies in the spare room behind is no part of what is read.
				if steps := checkDecoder(t, b[:end], each(1)); steps != 1 {
					t.Fatal(tag, b[:end], steps)
				}
			}
		})
	}
}

func Test12_1RowsThatCantBeMade(t *testing.T) {
	unlike := make([]uint64, 257)
	for i := range unlike {
		unlike[i] = uint64(i)
	}
	for _, tag := range tags {
		for _, l := range [][]api.Sample{
			nil, {}, row(5, 6)[:0], at(0, 0), at(1, 0), at(0, 2, 1, 3), at(math.MaxInt64, math.MinInt64), clock(65536),
			append(clock(300), api.Sample{T: 299}), append(at(1), clock(300)...),
		} {
			checkUnmade(t, tag, l)
		}
	}
	for _, tag := range others {
		checkUnmade(t, tag, nil)
		checkUnmade(t, tag, row(5))
		checkUnmade(t, tag, clock(300))
	}
	checkUnmade(t, api.TSimple, row(1<<59))
	checkUnmade(t, api.TSimple, row(0, 0, 1<<63))
	checkUnmade(t, api.TDict, row(unlike...))
	checkUnmade(t, api.TSame, row(5, 6))
	checkUnmade(t, api.TSame, append(clock(300), api.Sample{T: 300, V: 1}))
	for _, x := range []struct {
		tag   int
		l     []api.Sample
		steps int
	}{
		{api.TSimple, row(1<<59 - 1), 1}, {api.TSimple, row(0, 0, top), 3}, {api.TDict, row(unlike[1:]...), 256},
		{api.TSame, row(5, 5), 2}, {api.TXor, row(unlike...), 257}, {api.TFrame, clock(65535), 65535},
	} {
		if steps := checkEncoder(t, x.tag, x.l, each(1)); steps != x.steps {
			t.Fatal(x.tag, show(x.l), steps)
		}
	}
}

func Test12_1BesideTheModel(t *testing.T) {
	m := mixer(4)
	count := [2]int{}
	for range 4000 {
		tag, l := m.below(8), m.any()
		if m.below(6) == 0 {
			l[m.below(len(l))].T = l[0].T
		}
		checkEncoder(t, tag, l, m.size)
		b, ok := chnk.Make(tag, l)
		if !ok {
			count[0]++
			continue
		}
		count[1]++
		checkDecoder(t, b, m.size)
		b[m.below(len(b))] ^= 1 << m.below(8)
		checkDecoder(t, b, m.size)
		b[m.below(len(b))] = byte(m.next())
		checkDecoder(t, sealed(b[:len(b)-4]...), m.size)
	}
	if count[0] < 800 || count[1] < 800 {
		t.Fatal("too few of a kind were tried", count)
	}
}

func Test12_1AskingDoesNothing(t *testing.T) {
	m := mixer(5)
	for range 300 {
		l := m.any()
		eachChunk(l, func(tag int, b []byte) {
			d, e := work.NewDecoder(b), work.NewEncoder(tag, l)
			for left := len(l); left > 0; {
				for range m.below(6) {
					checkAhead(t, d)
					checkAhead(t, e)
				}
				n := m.size()
				checkStep(t, e, packed(tag, l), left, n)
				left = checkStep(t, d, unpacked(b), left, n)
			}
			for range 1 + m.below(6) {
				checkEnded(t, d, unpacked(b))
				checkEnded(t, e, packed(tag, l))
			}
		})
	}
}

func Test12_1NoneOfThemTouchesAnother(t *testing.T) {
	m := mixer(6)
	for range 100 {
		l := m.some(1 + m.below(20))
		tag := tags[m.below(6)]
		b, _ := chnk.Make(tag, l)
		type both struct {
			d           *work.Decoder
			e           *work.Encoder
			dLeft, left int
		}
		var all []both
		for range 5 {
			x := both{work.NewDecoder(b), work.NewEncoder(tag, l), 1, 1}
			if b != nil {
				x.dLeft, x.left = len(l), len(l)
			}
			all = append(all, x)
		}
		for range 200 {
			x, n := &all[m.below(len(all))], 1+m.below(5)
			if x.dLeft > 0 && m.below(2) == 0 {
				x.dLeft = checkStep(t, x.d, unpacked(b), x.dLeft, n)
			} else if x.left > 0 {
				x.left = checkStep(t, x.e, packed(tag, l), x.left, n)
			}
			for _, x := range all {
				if x.dLeft > 0 {
					checkAhead(t, x.d)
				} else {
					checkEnded(t, x.d, unpacked(b))
				}
				if x.left > 0 {
					checkAhead(t, x.e)
				} else {
					checkEnded(t, x.e, packed(tag, l))
				}
			}
		}
	}
}

func Test12_1WhatIsHandedInIsNotKept(t *testing.T) {
	m := mixer(7)
	for range 200 {
		l := m.any()
		eachChunk(l, func(tag int, b []byte) {
			// Each is overwritten ahead of a step of its own, the first one too.
			for when := range 4 {
				bytesIn, rowIn := bytes.Clone(b), slices.Clone(l)
				d, e := work.NewDecoder(bytesIn), work.NewEncoder(tag, rowIn)
				n := len(l)/3 + 1
				for i, left := 0, len(l); left > 0; i++ {
					if i == when {
						copy(bytesIn, make([]byte, len(b)))
						copy(rowIn, make([]api.Sample, len(l)))
					}
					checkStep(t, e, packed(tag, l), left, n)
					left = checkStep(t, d, unpacked(b), left, n)
				}
				copy(bytesIn, bytes.Repeat([]byte{0xff}, len(b)))
				copy(rowIn, slices.Repeat([]api.Sample{{T: -1, V: top}}, len(l)))
				checkEnded(t, d, unpacked(b))
				checkEnded(t, e, packed(tag, l))
			}
		})
	}
}

func Test12_1WhatIsHandedInIsNotChanged(t *testing.T) {
	m := mixer(8)
	for range 200 {
		l := m.any()
		for _, tag := range tags {
			b, _ := chnk.Make(tag, l)
			bytesIn, rowIn := append(bytes.Clone(b), 5, 5, 5, 5), append(slices.Clone(l), row(4, 4)...)
			wantBytes, wantRow := bytes.Clone(bytesIn), slices.Clone(rowIn)
			d, e := work.NewDecoder(bytesIn[:len(b)]), work.NewEncoder(tag, rowIn[:len(l)])
			checkWork(t, d, unpacked(b), m.size)
			checkWork(t, e, packed(tag, l), m.size)
			overwrite(d, api.Sample{T: -1, V: top})
			overwrite(e, 0x55)
			if !bytes.Equal(bytesIn, wantBytes) || !slices.Equal(rowIn, wantRow) {
				t.Fatalf("changed: %s, %s; not %s, %s", show(bytesIn), show(rowIn), show(wantBytes), show(wantRow))
			}
		}
	}
}

// overwrite writes over what a worker answers, and over the spare room behind it.
func overwrite[T comparable](w worker[T], x T) {
	got, _ := w.Done()
	got = got[:cap(got)]
	for i := range got {
		got[i] = x
	}
}

func Test12_1DoneTellsNewMemory(t *testing.T) {
	m := mixer(9)
	for range 200 {
		l := m.any()
		eachChunk(l, func(tag int, b []byte) {
			d, e := work.NewDecoder(b), work.NewEncoder(tag, l)
			checkWork(t, d, unpacked(b), m.size)
			checkWork(t, e, packed(tag, l), m.size)
			first, _ := d.Done()
			made, _ := e.Done()
			overwrite(d, api.Sample{T: -1, V: top})
			overwrite(e, 0x55)
			if !slices.Equal(first, l) || !bytes.Equal(made, b) {
				t.Fatalf("%s, %s; not %s, %s", show(first), show(made), show(l), show(b))
			}
			checkEnded(t, d, unpacked(b))
			checkEnded(t, e, packed(tag, l))
		})
	}
}

func Test12_2EachWayToPartAFewSteps(t *testing.T) {
	m := mixer(10)
	for k := 1; k <= 9; k++ {
		for range 4 {
			l := m.some(k)
			eachChunk(l, func(tag int, b []byte) {
				eachWay(k, func(way []int) {
					d := checkWork(t, work.NewDecoder(b), want[api.Sample]{l, k, true}, these(way...))
					e := checkWork(t, work.NewEncoder(tag, l), want[byte]{b, k, true}, these(way...))
					if d != len(way) || e != len(way) {
						t.Fatal(tag, way, d, e)
					}
				})
			})
		}
	}
}

func Test12_2AnyWayToPartManySteps(t *testing.T) {
	m := mixer(11)
	for _, k := range []int{61, 240, 257, 1000, 5000} {
		for range 6 {
			l := m.some(k)
			eachChunk(l, func(tag int, b []byte) {
				for range 4 {
					up := 1 + m.below(k)
					way := func() int { return m.below(up) }
					checkWork(t, work.NewDecoder(b), want[api.Sample]{l, k, true}, way)
					checkWork(t, work.NewEncoder(tag, l), want[byte]{b, k, true}, way)
				}
			})
		}
	}
}

func Test12_2LongRows(t *testing.T) {
	m := mixer(12)
	for _, k := range []int{65534, 65535} {
		for range 3 {
			l := m.some(k)
			eachChunk(l, func(tag int, b []byte) {
				for _, n := range []int{4, 32768, 65535} {
					checkWork(t, work.NewDecoder(b), want[api.Sample]{l, k, true}, each(n))
					checkWork(t, work.NewEncoder(tag, l), want[byte]{b, k, true}, each(n))
				}
			})
		}
	}
}

func Test12_2WhatIsMadeByStepsIsReadBySteps(t *testing.T) {
	m := mixer(13)
	seen := map[int]int{}
	for range 1500 {
		l := m.any()
		for _, tag := range tags {
			e := work.NewEncoder(tag, l)
			for k := 0; k < len(l) && e.Step(m.size()); k++ {
			}
			b, ok := e.Done()
			if !ok && (tag == api.TXor || tag == api.TRuns || tag == api.TFrame) {
				t.Fatalf("%s is not made by %d", show(l), tag)
			}
			if ok {
				checkWork(t, work.NewDecoder(b), want[api.Sample]{l, len(l), true}, m.size)
				seen[tag]++
			}
		}
	}
	for _, tag := range tags {
		if seen[tag] < 150 {
			t.Fatal("too few of a kind were tried", seen)
		}
	}
}

func Test12_2NothingStaysNothing(t *testing.T) {
	m := mixer(14)
	for range 500 {
		l := m.some(2 + m.below(30))
		b, _ := chnk.Make(api.TXor, l)
		b[m.below(len(b))] ^= 1 << m.below(8)
		l[len(l)-1].T = l[0].T
		n := m.size()
		d, e := work.NewDecoder(b), work.NewEncoder(api.TXor, l)
		if checkWork(t, d, want[api.Sample]{}, each(n)) != 1 || checkWork(t, e, want[byte]{}, each(n)) != 1 {
			t.Fatal(n, show(b), show(l))
		}
	}
}

func Test12_3NoCallPanics(t *testing.T) {
	m := mixer(15)
	for size := range 50 {
		lists := [][]byte{nil, make([]byte, size), bytes.Repeat([]byte{0xff}, size), bytes.Repeat([]byte{0x80}, size), bytes.Repeat([]byte{1}, size)}
		for range 40 {
			b := make([]byte, size)
			for i := range b {
				b[i] = byte(m.next()) >> m.below(8)
			}
			if size > 4 {
				b[0], b[1] = byte(m.below(8)), byte(m.below(size))
			}
			lists = append(lists, b)
		}
		for _, b := range lists {
			checkDecoder(t, b, m.size)
			checkDecoder(t, sealed(b...), m.size)
		}
		l := make([]api.Sample, size)
		for i := range l {
			l[i] = api.Sample{T: int64(m.next()), V: m.next()}
		}
		sorted := slices.SortedFunc(slices.Values(l), func(a, b api.Sample) int { return cmp.Compare(a.T, b.T) })
		for _, tag := range slices.Concat(others, tags) {
			checkEncoder(t, tag, l, m.size)
			checkEncoder(t, tag, sorted, m.size)
		}
	}
}

func Test12_3AnyFewBytesEnd(t *testing.T) {
	few := []byte{0, 1, 2, 3, 5, 6, 8, 0x80}
	for size := range 5 {
		b := make([]byte, size)
		for i := range 1 << (3 * size) {
			for k := range b {
				b[k] = few[i>>(3*k)&7]
			}
			for _, x := range [][]byte{b, sealed(b...)} {
				if steps := checkDecoder(t, x, each(1)); steps != 1 {
					t.Fatal(x, steps)
				}
			}
		}
	}
}
