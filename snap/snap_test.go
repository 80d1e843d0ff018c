package snap_test

import (
	"fmt"
	"math"
	"slices"
	"testing"

	"ephemeris/api"
	"ephemeris/appd"
	"ephemeris/blob"
	"ephemeris/chnk"
	"ephemeris/dire"
	"ephemeris/modl"
	"ephemeris/snap"
	"ephemeris/suit"
)

const near, far = math.MinInt64, math.MaxInt64

// times are the edges of what times there are, and few in between.
var times = []int64{near, near + 1, -1 << 32, -2, -1, 0, 1, 2, 1 << 32, far - 1, far}

// noBlobs are numbers that a store of few bytes has not.
var noBlobs = []int{math.MinInt, -1 << 32, -1, 0, 1 << 31, 1<<32 + 1, math.MaxInt}

func same(a, b api.Snap) bool {
	return a.Life == b.Life && a.Ver == b.Ver && a.From == b.From && a.To == b.To && slices.Equal(a.Parts, b.Parts) && slices.Equal(a.Tail, b.Tail)
}

func sameSlot(a, b api.Slot) bool {
	return a.There == b.There && a.Sealed == b.Sealed && a.Life == b.Life && a.Ver == b.Ver &&
		a.Open.Any == b.Open.Any && a.Open.Last == b.Open.Last && slices.Equal(a.Open.List, b.Open.List) && slices.Equal(a.Chunks, b.Chunks)
}

func cloned(x api.Snap) api.Snap {
	x.Parts, x.Tail = slices.Clone(x.Parts), slices.Clone(x.Tail)
	return x
}

func clonedSlot(s api.Slot) api.Slot {
	s.Open.List, s.Chunks = slices.Clone(s.Open.List), slices.Clone(s.Chunks)
	return s
}

// samples has one at each time, each with a value of its own.
func samples(at ...int64) []api.Sample {
	var l []api.Sample
	for i, t := range at {
		l = append(l, api.Sample{T: t, V: uint64(i)<<40 + 7})
	}
	return l
}

// part is one whose fields are unlike those of another number's.
func part(blob int, from, to int64) api.Part {
	return api.Part{Blob: blob, Tag: blob%6 + 1, Count: blob * 3, From: from, To: to}
}

// of is a snap of parts alone, by their numbers.
func of(blobs ...int) api.Snap {
	var x api.Snap
	for _, id := range blobs {
		x.Parts = append(x.Parts, part(id, 5, 9))
	}
	return x
}

// expected is what Of is to tell: it looks for times one by one, where two rows of times can meet: at one's end.
func expected(s api.Slot, from, to int64) api.Snap {
	x := api.Snap{Life: s.Life, Ver: s.Ver, From: from, To: to}
	in := func(t, from, to int64) bool { return t >= from && t <= to }
	for _, p := range s.Chunks {
		if slices.ContainsFunc([]int64{from, to, p.From, p.To}, func(t int64) bool { return in(t, from, to) && in(t, p.From, p.To) }) {
			x.Parts = append(x.Parts, p)
		}
	}
	for _, m := range s.Open.List {
		if in(m.T, from, to) {
			x.Tail = append(x.Tail, m)
		}
	}
	return x
}

// mixer gives numbers that look like any.
type mixer uint64

func (m *mixer) next() uint64 {
	*m += 0x9e3779b97f4a7c15
	z := uint64(*m)
	z = (z ^ z>>30) * 0xbf58476d1ce4e5b9
	z = (z ^ z>>27) * 0x94d049bb133111eb
	return z ^ z>>31
}

func (m *mixer) below(n int) int {
	return int(m.next() % uint64(n))
}

// time is any, mostly one of few.
func (m *mixer) time() int64 {
	switch m.below(4) {
	case 0:
		return times[m.below(len(times))]
	case 1:
		return int64(m.next())
	}
	return int64(m.below(40)) - 20
}

// slot is any, whether it makes sense or not.
func (m *mixer) slot() api.Slot {
	s := api.Slot{There: m.below(2) == 0, Sealed: m.below(2) == 0, Life: m.below(9) - 4, Ver: m.below(9) - 4}
	s.Open.Any, s.Open.Last = m.below(2) == 0, m.time()
	for range m.below(12) {
		s.Open.List = append(s.Open.List, api.Sample{T: m.time(), V: m.next()})
	}
	for range m.below(12) {
		s.Chunks = append(s.Chunks, api.Part{Blob: m.below(9) - 2, Tag: m.below(9) - 1, Count: m.below(5) - 1, From: m.time(), To: m.time()})
	}
	return s
}

// Test19_1Example is the chapter's own example.
func Test19_1Example(t *testing.T) {
	for _, from := range times {
		for _, to := range times {
			if x := snap.Of(api.Slot{}, from, to); !same(x, api.Snap{From: from, To: to}) || len(snap.Tail(x)) != 0 {
				t.Error(from, to, x)
			}
		}
	}
}

func Test19_1ByHand(t *testing.T) {
	l := samples(71, 75, 80)
	s := api.Slot{There: true, Sealed: true, Life: 4, Ver: 6, Open: api.Open{Any: true, Last: 80, List: l}, Chunks: []api.Part{part(3, -20, -11), part(9, -10, 0), part(4, 1, 1), part(7, 40, 70)}}
	p := s.Chunks
	for i, c := range []struct {
		from, to int64
		parts    []api.Part
		tail     []api.Sample
	}{
		{near, far, p, l},
		{-20, 80, p, l},
		{-11, 79, p, l[:2]},
		{-10, 75, p[1:], l[:2]},
		{1, 74, p[2:], l[:1]},
		{2, 71, p[3:], l[:1]},
		{2, 70, p[3:], nil},
		{2, 40, p[3:], nil},
		{2, 39, nil, nil}, // between two parts
		{-15, -15, p[:1], nil},
		{-21, -21, nil, nil},
		{-21, -20, p[:1], nil},
		{50, 51, p[3:], nil}, // within one part, whether it has samples there or not
		{70, 70, p[3:], nil},
		{71, 71, nil, l[:1]},
		{72, 74, nil, nil}, // between two samples
		{72, 80, nil, l[1:]},
		{80, far, nil, l[2:]},
		{81, far, nil, nil},
		{near, near, nil, nil},
		{near, -10, p[:2], nil},
		{far, far, nil, nil},
		{60, 50, nil, nil}, // from above to: no time
		{80, 71, nil, nil},
		{far, near, nil, nil},
	} {
		want := api.Snap{Life: 4, Ver: 6, From: c.from, To: c.to, Parts: c.parts, Tail: c.tail}
		if got := snap.Of(s, c.from, c.to); !same(got, want) || !slices.Equal(snap.Tail(got), c.tail) {
			t.Error(i, got, want)
		}
	}
}

// Test19_1EachPairOfTimes holds each from and to against a part with each From and To, and a sample at each time.
func Test19_1EachPairOfTimes(t *testing.T) {
	s := api.Slot{There: true, Open: api.Open{Any: true, Last: far, List: samples(times...)}}
	for i, from := range times {
		for j, to := range times {
			s.Chunks = append(s.Chunks, part(i*100+j, from, to))
		}
	}
	for i, from := range times {
		for j, to := range times {
			var parts []api.Part
			for k := range times {
				for l := range times {
					// times rise, so they are below each other as their places are
					if i <= j && k <= l && max(i, k) <= min(j, l) {
						parts = append(parts, s.Chunks[k*len(times)+l])
					}
				}
			}
			var tail []api.Sample
			if i <= j {
				tail = s.Open.List[i : j+1]
			}
			if got := snap.Of(s, from, to); !same(got, api.Snap{From: from, To: to, Parts: parts, Tail: tail}) {
				t.Error(from, to, got)
			}
		}
	}
}

// Test19_1EachTime asks of few times, one by one, whether a part has one of those that are asked for.
func Test19_1EachTime(t *testing.T) {
	const n = 7
	for c := range n * n * n * n {
		from, to, a, b := int64(c%n), int64(c/n%n), int64(c/n/n%n), int64(c/n/n/n)
		common := false
		for at := range int64(n) {
			if from <= at && at <= to && a <= at && at <= b {
				common = true
			}
		}
		got := snap.Of(api.Slot{Chunks: []api.Part{part(1, a, b)}}, from, to)
		if (len(got.Parts) == 1) != common {
			t.Error(from, to, a, b, got)
		}
	}
}

func Test19_1AnySlots(t *testing.T) {
	m := mixer(19)
	for range 20_000 {
		s, from, to := m.slot(), m.time(), m.time()
		was := clonedSlot(s)
		if got, want := snap.Of(s, from, to), expected(was, from, to); !same(got, want) {
			t.Fatal(was, from, to, got, want)
		}
		if !sameSlot(s, was) {
			t.Fatal(was, s)
		}
	}
}

// Test19_1LifeAndVer has them as they are, odd and below 0, too.
func Test19_1LifeAndVer(t *testing.T) {
	numbers := []int{math.MinInt, -1 << 32, -2, -1, 0, 1, 2, 3, 1 << 32, math.MaxInt}
	for _, life := range numbers {
		for _, ver := range numbers {
			s := api.Slot{Life: life, Ver: ver, Chunks: []api.Part{part(2, 0, 4)}}
			if got := snap.Of(s, 3, 5); !same(got, api.Snap{Life: life, Ver: ver, From: 3, To: 5, Parts: s.Chunks}) {
				t.Error(life, ver, got)
			}
		}
	}
}

// Test19_1NothingElse turns all fields of which Of tells nothing.
func Test19_1NothingElse(t *testing.T) {
	s := api.Slot{Life: 1, Ver: 2, Open: api.Open{List: samples(4, 5)}, Chunks: []api.Part{part(2, 0, 4)}}
	want := snap.Of(s, 3, 4)
	if len(want.Parts) != 1 || len(want.Tail) != 1 {
		t.Error(want)
	}
	for n := range 8 {
		s.There, s.Sealed, s.Open.Any = n&1 != 0, n&2 != 0, n&4 != 0
		for _, s.Open.Last = range times {
			if got := snap.Of(s, 3, 4); !same(got, want) {
				t.Error(s, got)
			}
		}
	}
}

// Test19_1EachFieldOfPart has parts as they are, whatever they tell.
func Test19_1EachFieldOfPart(t *testing.T) {
	for _, n := range []int{math.MinInt, -1 << 32, -1, 0, 1, 7, 1 << 32, math.MaxInt} {
		for _, p := range []api.Part{{Blob: n}, {Tag: n}, {Count: n}, {From: min(int64(n), 0), To: max(int64(n), 0)}} {
			if got := snap.Of(api.Slot{Chunks: []api.Part{p}}, 0, 0); !slices.Equal(got.Parts, []api.Part{p}) {
				t.Error(p, got)
			}
		}
	}
}

// Test19_1Order has parts and samples that do not rise, and some twice: they stay as they stand.
func Test19_1Order(t *testing.T) {
	p, l := []api.Part{part(5, 8, 9), part(2, 3, 4), part(2, 3, 4), part(9, 20, 30), part(1, 4, 8)}, samples(9, 3, 3, 20, 8)
	got := snap.Of(api.Slot{Chunks: p, Open: api.Open{List: l}}, 3, 9)
	want := api.Snap{From: 3, To: 9, Parts: []api.Part{p[0], p[1], p[2], p[4]}, Tail: []api.Sample{l[0], l[1], l[2], l[4]}}
	if !same(got, want) || !slices.Equal(snap.Tail(got), want.Tail) {
		t.Error(got)
	}
}

func Test19_1LongLists(t *testing.T) {
	var s api.Slot
	for i := range int64(5000) {
		s.Chunks = append(s.Chunks, part(int(i), 10*i, 10*i+8))
		s.Open.List = append(s.Open.List, api.Sample{T: 50_000 + i, V: uint64(i)})
	}
	for _, c := range []struct {
		from, to                      int64
		firstPart, behindPart, behind int
	}{{near, far, 0, 5000, 5000}, {8, 49_990, 0, 5000, 0}, {9, 49_989, 1, 4999, 0}, {25_009, 50_000, 2501, 5000, 1}, {49_999, 52_000, 0, 0, 2001}} {
		got := snap.Of(s, c.from, c.to)
		if !slices.Equal(got.Parts, s.Chunks[c.firstPart:c.behindPart]) || !slices.Equal(got.Tail, s.Open.List[:c.behind]) {
			t.Error(c, len(got.Parts), len(got.Tail))
		}
	}
}

// Test19_1Tail has it as it is, whatever the snap tells beside it.
func Test19_1Tail(t *testing.T) {
	m := mixer(5)
	for range 2000 {
		s := m.slot()
		x := api.Snap{Life: s.Life, Ver: s.Ver, From: m.time(), To: m.time(), Parts: s.Chunks, Tail: s.Open.List}
		was := cloned(x)
		if got := snap.Tail(x); !slices.Equal(got, was.Tail) || !same(x, was) {
			t.Fatal(was, got)
		}
	}
	if got := snap.Tail(api.Snap{}); len(got) != 0 {
		t.Error(got)
	}
}

// roomy is l with room behind it that holds x.
func roomy[T any](l []T, x T) []T {
	whole := append(append(make([]T, 0, len(l)+3), l...), x, x, x)
	return whole[:len(l)]
}

// overwrite puts x all over a list, and over its spare room.
func overwrite[T any](l []T, x T) {
	whole := l[:cap(l)]
	for i := range whole {
		whole[i] = x
	}
}

// holds tells whether the spare room behind l is as roomy left it.
func holds[T comparable](l []T, x T) bool {
	return slices.Equal(l[len(l):cap(l)], []T{x, x, x})
}

var (
	markSample = api.Sample{T: 12, V: 13}
	markPart   = api.Part{Blob: 14, Tag: 15, Count: 16, From: 17, To: 18}
)

// spoil overwrites both lists of a snap.
func spoil(x api.Snap) {
	overwrite(x.Tail, api.Sample{T: 666, V: 666})
	overwrite(x.Parts, api.Part{Blob: 666, Tag: 666, Count: 666, From: 666, To: 666})
}

// Test19_1HandedIn looks whether Of changes what it is given, and its spare room, or tells it.
func Test19_1HandedIn(t *testing.T) {
	m := mixer(7)
	for range 500 {
		s := m.slot()
		s.Open.List, s.Chunks = roomy(s.Open.List, markSample), roomy(s.Chunks, markPart)
		was, from, to := clonedSlot(s), min(m.time(), 0), max(m.time(), 0)
		first, second := snap.Of(s, from, to), snap.Of(s, from, to)
		spoil(first)
		if !sameSlot(s, was) || !holds(s.Open.List, markSample) || !holds(s.Chunks, markPart) {
			t.Fatal(was, s)
		}
		overwrite(s.Open.List, markSample)
		overwrite(s.Chunks, markPart)
		if !same(second, expected(was, from, to)) {
			t.Fatal(was, second)
		}
	}
}

// Test19_1TailHandedIn is the same of Tail.
func Test19_1TailHandedIn(t *testing.T) {
	for n := range 20 {
		x := api.Snap{Tail: roomy(samples(times[:n%12]...), markSample)}
		was := cloned(x)
		first, second := snap.Tail(x), snap.Tail(x)
		overwrite(first, api.Sample{T: 666, V: 666})
		if !same(x, was) || !holds(x.Tail, markSample) {
			t.Error(n, x)
		}
		overwrite(x.Tail, markSample)
		if !slices.Equal(second, was.Tail) {
			t.Error(n, second)
		}
	}
}

// Test19_1HoldHandedIn is the same of Hold and Leave.
func Test19_1HoldHandedIn(t *testing.T) {
	for n := range 6 {
		b := stored(4)
		x := of([]int{1, 2, 2, 4, 9}[:min(n, 5)]...)
		x.Parts, x.Tail = roomy(x.Parts, markPart), roomy(samples(1, 2), markSample)
		was := cloned(x)
		snap.Hold(b, x)
		snap.Leave(b, x)
		if !same(x, was) || !holds(x.Parts, markPart) || !holds(x.Tail, markSample) {
			t.Error(n, x)
		}
	}
}

// stored is a full store of n numbers, 1 to n, with as many bytes as they tell, each held once.
func stored(n int) *blob.Store {
	b := blob.New(n * (n + 1) / 2)
	for i := range n {
		b.Add(make([]byte, i+1))
	}
	return b
}

// heldAs tells whether the numbers from 1 on are held so often, and no other bytes are there.
func heldAs(b *blob.Store, counts ...int) bool {
	used := 0
	for i, n := range counts {
		if b.Holds(i+1) != n {
			return false
		}
		if n > 0 {
			used += i + 1
		}
	}
	return b.Used() == used
}

func Test19_1HoldByHand(t *testing.T) {
	b := stored(4)
	for i, c := range []struct {
		leave  bool
		blobs  []int
		did    bool
		counts [4]int
	}{
		{false, nil, true, [4]int{1, 1, 1, 1}},
		{false, []int{2}, true, [4]int{1, 2, 1, 1}},
		{false, []int{4, 2, 1}, true, [4]int{2, 3, 1, 2}},
		{false, []int{3, 3, 3}, true, [4]int{2, 3, 4, 2}}, // a number for each part of it
		{false, []int{5}, false, [4]int{2, 3, 4, 2}},
		{false, []int{5, 1, 2}, false, [4]int{2, 3, 4, 2}},
		{false, []int{1, 5, 2}, false, [4]int{2, 3, 4, 2}},
		{false, []int{1, 2, 1, 5}, false, [4]int{2, 3, 4, 2}},
		{false, []int{1, 2, 0}, false, [4]int{2, 3, 4, 2}},
		{true, nil, true, [4]int{2, 3, 4, 2}},
		{true, []int{3, 3, 3}, true, [4]int{2, 3, 1, 2}},
		{true, []int{4, 2, 1}, true, [4]int{1, 2, 1, 1}},
		{true, []int{3}, true, [4]int{1, 2, 0, 1}}, // 3 is gone
		{false, []int{3}, false, [4]int{1, 2, 0, 1}},
		{false, []int{4, 3}, false, [4]int{1, 2, 0, 1}},
		{true, []int{3}, true, [4]int{1, 2, 0, 1}},
		{true, []int{0, 4, 3, -1, 2, 5}, true, [4]int{1, 1, 0, 0}}, // those that are not there are passed by
		{true, []int{2, 2, 2, 1}, true, [4]int{}},
		{false, nil, true, [4]int{}},
		{false, []int{1}, false, [4]int{}},
	} {
		did := true
		if c.leave {
			snap.Leave(b, of(c.blobs...))
		} else {
			did = snap.Hold(b, of(c.blobs...))
		}
		if did != c.did || !heldAs(b, c.counts[:]...) {
			t.Error(i, c.leave, c.blobs, did, b.Holds(1), b.Holds(2), b.Holds(3), b.Holds(4), b.Used())
		}
	}
}

// Test19_1HoldMissing has a snap of many parts of which one is not there, at each place: none is held.
func Test19_1HoldMissing(t *testing.T) {
	const n = 12
	for _, none := range append(slices.Clone(noBlobs), n+1, n) {
		for i := range n {
			b := stored(n)
			b.Leave(n)
			blobs := make([]int, n)
			for j := range blobs {
				blobs[j] = j%(n-1) + 1
			}
			blobs[i] = none
			if snap.Hold(b, of(blobs...)) {
				t.Error(none, i)
			}
			for id := 1; id < n; id++ {
				if b.Holds(id) != 1 {
					t.Error(none, i, id, b.Holds(id))
				}
			}
			if b.Holds(none) != 0 {
				t.Error(none, i, b.Holds(none))
			}
		}
	}
}

// Test19_1HoldNoBytes holds a number that has no bytes: it is there all the same.
func Test19_1HoldNoBytes(t *testing.T) {
	b := blob.New(0)
	b.Add(nil)
	if !snap.Hold(b, of(1, 1)) || b.Holds(1) != 3 {
		t.Error(b.Holds(1))
	}
	snap.Leave(b, of(1, 1))
	if b.Holds(1) != 1 {
		t.Error(b.Holds(1))
	}
}

// Test19_1HoldByBlobAlone turns all else that a snap tells: its parts' numbers alone count.
func Test19_1HoldByBlobAlone(t *testing.T) {
	for _, from := range times {
		for _, to := range times {
			b := stored(3)
			x := api.Snap{Life: int(from), Ver: int(to), From: from, To: to, Tail: samples(from, to), Parts: []api.Part{
				{Blob: 2, Tag: int(to), Count: int(from), From: from, To: to}, {Blob: 3, From: to, To: from}}}
			if !snap.Hold(b, x) || !heldAs(b, 1, 2, 2) {
				t.Error(x)
			}
			snap.Leave(b, x)
			if !heldAs(b, 1, 1, 1) {
				t.Error(x)
			}
		}
	}
}

// Test19_1HoldOften holds the same often, and leaves it as often: it is gone with the last.
func Test19_1HoldOften(t *testing.T) {
	b, x := stored(3), of(3, 1, 3)
	for i := range 3000 {
		if !snap.Hold(b, x) || !heldAs(b, i+2, 1, 2*i+3) {
			t.Fatal(i, b.Holds(1), b.Holds(3))
		}
	}
	b.Leave(1)
	b.Leave(3)
	for i := 3000; i > 0; i-- {
		if !heldAs(b, i, 1, 2*i) {
			t.Fatal(i, b.Holds(1), b.Holds(3))
		}
		snap.Leave(b, x)
	}
	if !heldAs(b, 0, 1, 0) || snap.Hold(b, x) {
		t.Error(b.Holds(1), b.Holds(3), b.Used())
	}
}

// The world beside which Hold and Leave are held: how often each of few numbers is, in a list of all holds there are, which is gone through anew for each answer.

type world []int

func (w world) count(id int) int {
	n := 0
	for _, one := range w {
		if one == id {
			n++
		}
	}
	return n
}

func (w *world) hold(blobs []int) bool {
	for _, id := range blobs {
		if !slices.Contains(*w, id) {
			return false
		}
	}
	*w = append(*w, blobs...)
	return true
}

func (w *world) leave(blobs []int) {
	for _, id := range blobs {
		if i := slices.Index(*w, id); i >= 0 {
			*w = slices.Delete(*w, i, i+1)
		}
	}
}

// call is Hold or Leave of a snap of some numbers.
type call struct {
	leave bool
	blobs []int
}

// both does a call in a store and in its world, and tells where they are unlike.
func (c call) both(b *blob.Store, w *world) string {
	if c.leave {
		snap.Leave(b, of(c.blobs...))
		w.leave(c.blobs)
	} else if got, want := snap.Hold(b, of(c.blobs...)), w.hold(c.blobs); got != want {
		return fmt.Sprintf("%v: %t, not %t", c, got, want)
	}
	for id := -1; id < 7; id++ {
		if b.Holds(id) != w.count(id) {
			return fmt.Sprintf("%v: %d is held %d times, not %d", c, id, b.Holds(id), w.count(id))
		}
	}
	return ""
}

// Test19_1FewCallsAfterEachOther does each row of five of few calls.
func Test19_1FewCallsAfterEachOther(t *testing.T) {
	var calls []call
	for _, blobs := range [][]int{{1}, {2}, {1, 2}, {2, 2, 1}, {1, 3}, {2, 0}} {
		calls = append(calls, call{false, blobs}, call{true, blobs})
	}
	for n := range 12 * 12 * 12 * 12 * 12 {
		b, w := stored(2), world{1, 2}
		for rest, i := n, 0; i < 5; rest, i = rest/len(calls), i+1 {
			if unlike := calls[rest%len(calls)].both(b, &w); unlike != "" {
				t.Fatal(n, unlike)
			}
		}
	}
}

func Test19_1LongRows(t *testing.T) {
	m := mixer(3)
	for range 500 {
		b, w := stored(5), world{1, 2, 3, 4, 5}
		for range 40 {
			c := call{leave: m.below(5) < 2}
			for range m.below(5) {
				c.blobs = append(c.blobs, m.below(6)+1-m.below(40)/36)
			}
			if unlike := c.both(b, &w); unlike != "" {
				t.Fatal(unlike)
			}
		}
	}
}

// shore is series that are written, the bytes of their chunks, and the model of them that one hand alone has.
type shore struct {
	t     *testing.T
	dir   *dire.Dir
	store *blob.Store
	model api.Model
}

func newShore(t *testing.T) *shore {
	return &shore{t: t, dir: dire.New(), store: blob.New(1 << 20)}
}

// write leaves in the slot what turn makes of it.
func (h *shore) write(id int, turn func(s *api.Slot)) {
	s, ok := h.dir.Look(id)
	if !ok || !h.dir.Take(id, 0) {
		h.t.Fatal("somebody writes", id)
	}
	turn(&s)
	if !h.dir.Leave(id, 0, s) {
		h.t.Fatal("not left:", id)
	}
}

// keep adds a chunk, and tells its part.
func (h *shore) keep(b []byte) api.Part {
	head, ok := chnk.Head(b)
	blob, added := h.store.Add(b)
	if !ok || !added {
		h.t.Fatal("no chunk, or no room:", b)
	}
	return api.Part{Blob: blob, Tag: head.Tag, Count: head.Count, From: head.From, To: head.To}
}

// add puts a sample behind a series, by gap behind its last one.
func (h *shore) add(id int, gap int64, v uint64) {
	h.write(id, func(s *api.Slot) {
		at := s.Open.Last + gap
		h.model, _ = modl.Do(h.model, api.Op{Kind: api.OAppend, Series: id, T: at, V: v})
		s.There = true
		s.Open, _ = appd.Add(s.Open, api.Sample{T: at, V: v})
		if appd.Full(s.Open) {
			var b []byte
			b, s.Open = appd.Close(s.Open)
			s.Chunks = append(s.Chunks, h.keep(b))
		}
	})
}

// remake makes a chunk of a series anew by its best codec, and lets the old one go.
func (h *shore) remake(id, any int) {
	h.write(id, func(s *api.Slot) {
		if len(s.Chunks) == 0 {
			return
		}
		p := &s.Chunks[any%len(s.Chunks)]
		old := p.Blob
		b, _ := h.store.Get(old)
		l, _, _ := chnk.Open(b)
		tag, _ := suit.Best(l)
		made, _ := chnk.Make(tag, l)
		*p = h.keep(made)
		h.store.Leave(old)
	})
}

// remove takes a series away, with all its chunks.
func (h *shore) remove(id int) {
	h.write(id, func(s *api.Slot) {
		h.model, _ = modl.Do(h.model, api.Op{Kind: api.ODelete, Series: id})
		for _, p := range s.Chunks {
			h.store.Leave(p.Blob)
		}
		*s = api.Slot{Life: s.Life + 1}
	})
}

// seen is a snap, and what one hand alone would have read at its moment.
type seen struct {
	snap api.Snap
	want []api.Sample
}

// see takes a snap and holds it.
func (h *shore) see(id int, from, to int64) seen {
	s, ok := h.dir.Look(id)
	if !ok {
		h.t.Fatal("not to be looked at:", id)
	}
	x := snap.Of(s, from, to)
	if !snap.Hold(h.store, x) {
		h.t.Fatal("not held:", x)
	}
	_, r := modl.Do(h.model, api.Op{Kind: api.ORead, Series: id, From: from, To: to})
	return seen{x, r.List}
}

// check reads a snap that is held, by its chunks and its tail, and tells how many samples it has.
func (h *shore) check(e seen) int {
	var got []api.Sample
	for _, p := range e.snap.Parts {
		b, ok := h.store.Get(p.Blob)
		l, tag, isChunk := chnk.Open(b)
		if !ok || !isChunk || tag != p.Tag || len(l) != p.Count {
			h.t.Fatal("not there any more:", p)
		}
		for _, m := range l {
			if e.snap.From <= m.T && m.T <= e.snap.To {
				got = append(got, m)
			}
		}
	}
	got = append(got, snap.Tail(e.snap)...)
	if !slices.Equal(got, e.want) {
		h.t.Fatal(e.snap, got, e.want)
	}
	return len(got)
}

// Test19_2Stays takes snaps of series that are written all the while: each stays what it was, as long as it is held; and nothing stays of what nobody has.
func Test19_2Stays(t *testing.T) {
	m := mixer(2)
	read := 0
	for range 40 {
		h := newShore(t)
		var held []seen
		for range 400 {
			id := m.below(2) * 15
			switch m.below(16) {
			case 0:
				if m.below(8) == 0 {
					h.remove(id)
				}
			case 1, 2:
				h.remake(id, m.below(100))
			case 3, 4, 5:
				from := int64(m.below(300)) - 20
				held = append(held, h.see(id, from, from+int64(m.below(300))-20))
			case 6, 7:
				if len(held) > 0 {
					i := m.below(len(held))
					read += h.check(held[i])
					snap.Leave(h.store, held[i].snap)
					held = slices.Delete(held, i, i+1)
				}
			default:
				h.add(id, int64(m.below(5))+1, m.next()>>(m.below(64)))
			}
		}
		h.remove(0)
		h.remove(15)
		for _, e := range held {
			read += h.check(e)
		}
		for _, e := range held {
			snap.Leave(h.store, e.snap)
		}
		if h.store.Used() != 0 {
			t.Fatal("somebody still holds", h.store.Used())
		}
	}
	if read < 10_000 {
		t.Error("few were read:", read)
	}
}

// Test19_2EachWrite takes a snap of each from and to ahead of each kind of write.
func Test19_2EachWrite(t *testing.T) {
	for kind := range 4 {
		h := newShore(t)
		for i := range 21 {
			h.add(3, 10, uint64(i/8))
		}
		var held []seen
		for from := int64(0); from <= 220; from += 5 {
			for to := int64(0); to <= 220; to += 5 {
				held = append(held, h.see(3, from, to))
			}
		}
		switch kind {
		case 0:
			for range 8 {
				h.add(3, 10, 77)
			}
		case 1:
			h.remake(3, 0)
			h.remake(3, 1)
		case 2:
			h.remove(3)
		case 3:
			h.remove(3)
			for range 30 {
				h.add(3, 7, 99)
			}
		}
		for _, e := range held {
			h.check(e)
		}
		for _, e := range held {
			snap.Leave(h.store, e.snap)
		}
		h.remove(3)
		if h.store.Used() != 0 {
			t.Error(kind, h.store.Used())
		}
	}
}

func Test19_3NoPanic(t *testing.T) {
	m := mixer(33)
	numbers := []int{math.MinInt, -1 << 31, -1, 0, 1, 2, 1 << 31, math.MaxInt}
	stores := []*blob.Store{blob.New(0), blob.New(math.MinInt), blob.New(math.MaxInt), stored(3)}
	for range 3000 {
		s := m.slot()
		s.Life, s.Ver = numbers[m.below(len(numbers))], numbers[m.below(len(numbers))]
		for i := range s.Chunks {
			s.Chunks[i].Blob = numbers[m.below(len(numbers))]
		}
		snap.Tail(snap.Of(s, m.time(), m.time()))
		x := api.Snap{Life: s.Life, Ver: s.Ver, From: m.time(), To: m.time(), Parts: s.Chunks, Tail: s.Open.List}
		for _, b := range stores {
			snap.Hold(b, x)
			snap.Leave(b, x)
			snap.Leave(b, x)
			snap.Hold(b, snap.Of(s, near, far))
		}
	}
	for _, b := range stores {
		snap.Hold(b, api.Snap{Parts: []api.Part{}, Tail: []api.Sample{}})
		snap.Leave(b, api.Snap{})
	}
	snap.Of(api.Slot{Open: api.Open{List: []api.Sample{}}, Chunks: []api.Part{}}, far, near)
}
