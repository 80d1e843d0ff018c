package appd_test

import (
	"bytes"
	"fmt"
	"math"
	"slices"
	"testing"

	"ephemeris/api"
	"ephemeris/appd"
	"ephemeris/chnk"
)

// The model beside which the package is held: a log of all that ever came, and how much of it was closed.

const (
	near = math.MinInt64
	far  = math.MaxInt64
	top  = math.MaxUint64
)

// edges are times, rising.
var edges = []int64{near, near + 1, -1 << 62, -1 << 32, -65, -2, -1, 0, 1, 2, 63, 1 << 31, 1 << 32, 1 << 62, far - 1, far}

// clock is a row of n noughts at the times 0, 1, 2 and so on.
func clock(n int) []api.Sample {
	l := make([]api.Sample, n)
	for i := range l {
		l[i].T = int64(i)
	}
	return l
}

// at is a row of noughts at these times.
func at(t ...int64) []api.Sample {
	l := make([]api.Sample, len(t))
	for i, x := range t {
		l[i].T = x
	}
	return l
}

// open is an open list that is as if only l had come.
func open(l ...api.Sample) api.Open {
	if len(l) == 0 {
		return api.Open{}
	}
	return api.Open{Any: true, Last: l[len(l)-1].T, List: l}
}

// roomy is l with so much spare room behind it, filled with samples that nobody should touch.
func roomy(l []api.Sample, room int) []api.Sample {
	all := slices.Concat(l, slices.Repeat([]api.Sample{{T: -7, V: 7}}, room))
	return all[:len(l):len(all)]
}

// mixer makes numbers that look like any, the same ones in each run.
type mixer uint64

func (m *mixer) next() uint64 {
	*m += 0x9e3779b97f4a7c15
	z := uint64(*m)
	z = (z ^ z>>30) * 0xbf58476d1ce4e5b9
	z = (z ^ z>>27) * 0x94d049bb133111eb
	return z ^ z>>31
}

// below tells a number of 0 to n-1.
func (m *mixer) below(n int) int {
	return int(m.next() % uint64(n))
}

// sample tells a sample of any time and value, often at an edge.
func (m *mixer) sample() api.Sample {
	t := int64(m.next())
	switch m.below(3) {
	case 0:
		t = edges[m.below(len(edges))]
	case 1:
		t >>= 56
	}
	return api.Sample{T: t, V: m.next() >> m.below(64)}
}

// any tells an open list of whatever it may hold, whether samples can have come to it so or not.
func (m *mixer) any() api.Open {
	o := api.Open{Any: m.below(2) == 0, Last: m.sample().T}
	for range m.below(12) {
		o.List = append(o.List, m.sample())
	}
	return o
}

// rising tells an open list as samples come to it, of up to 11.
func (m *mixer) rising() api.Open {
	var l []api.Sample
	now := int64(m.next()) >> (2 + m.below(60))
	for range m.below(12) {
		l = append(l, api.Sample{T: now, V: m.next() >> m.below(64)})
		now += 1 + int64(m.next()>>(20+m.below(44)))
	}
	return open(l...)
}

// show tells an open list, and not all of a long one.
func show(o api.Open) string {
	if len(o.List) > 40 {
		return fmt.Sprintf("{%t %d %v.. (%d)}", o.Any, o.Last, o.List[:40], len(o.List))
	}
	return fmt.Sprint(o)
}

// same tells whether two open lists are the same, none of the samples and nil alike.
func same(a, b api.Open) bool {
	return a.Any == b.Any && a.Last == b.Last && slices.Equal(a.List, b.List)
}

func checkSame(t *testing.T, what string, got, want api.Open) {
	t.Helper()
	if !same(got, want) {
		t.Fatalf("%s: %s, not %s", what, show(got), show(want))
	}
}

// checkAdded holds that s is put behind the list of o.
func checkAdded(t *testing.T, o api.Open, s api.Sample) api.Open {
	t.Helper()
	got, e := appd.Add(o, s)
	if e != api.OK {
		t.Fatalf("Add(%s, %v) is error %d", show(o), s, e)
	}
	checkSame(t, "added", got, api.Open{Any: true, Last: s.T, List: slices.Concat(o.List, []api.Sample{s})})
	return got
}

// checkRefused holds that s is refused, and o stays.
func checkRefused(t *testing.T, o api.Open, s api.Sample) {
	t.Helper()
	got, e := appd.Add(o, s)
	if e != api.ErrOrder {
		t.Fatalf("Add(%s, %v) is error %d", show(o), s, e)
	}
	checkSame(t, "refused", got, o)
}

// checkAdd holds Add to what must hold of the times; it tells what it comes to, and whether s came.
func checkAdd(t *testing.T, o api.Open, s api.Sample) (api.Open, bool) {
	t.Helper()
	if o.Any && !(s.T > o.Last) {
		checkRefused(t, o, s)
		return o, false
	}
	return checkAdded(t, o, s), true
}

// checkClosed holds that Close tells these bytes, and o without its list.
func checkClosed(t *testing.T, o api.Open, want []byte) api.Open {
	t.Helper()
	b, rest := appd.Close(o)
	if !bytes.Equal(b, want) {
		t.Fatalf("Close(%s) is % x, not % x", show(o), b, want)
	}
	checkSame(t, "closed", rest, api.Open{Any: o.Any, Last: o.Last})
	return rest
}

// checkClose holds Close to chnk.
func checkClose(t *testing.T, o api.Open) api.Open {
	t.Helper()
	want, _ := chnk.Make(api.TXor, o.List)
	return checkClosed(t, o, want)
}

func checkCounts(t *testing.T, o api.Open, full bool, size int) {
	t.Helper()
	if appd.Full(o) != full || appd.Size(o) != size {
		t.Fatalf("%s is Full: %t, Size: %d; not %t, %d", show(o), appd.Full(o), appd.Size(o), full, size)
	}
}

func Test13_1TheZeroOpen(t *testing.T) {
	checkCounts(t, api.Open{}, false, 0)
	checkCounts(t, api.Open{List: []api.Sample{}}, false, 0)
	checkClosed(t, api.Open{}, nil)
	checkClosed(t, api.Open{List: []api.Sample{}}, nil)
	for _, x := range edges {
		got := checkAdded(t, api.Open{}, api.Sample{T: x, V: top})
		checkSame(t, "one", got, api.Open{Any: true, Last: x, List: []api.Sample{{T: x, V: top}}})
	}
}

func Test13_1AddAboutEachTime(t *testing.T) {
	for i, last := range edges {
		for k, x := range edges {
			s := api.Sample{T: x, V: uint64(k)}
			for _, o := range []api.Open{
				{Any: true, Last: last},
				{Any: true, Last: last, List: []api.Sample{}},
				{Any: true, Last: last, List: at(last)},
				{Any: true, Last: last, List: roomy(at(last), 3)},
			} {
				if k > i {
					checkAdded(t, o, s)
				} else {
					checkRefused(t, o, s)
				}
			}
		}
	}
}

func Test13_1TheSameTimeIsRefusedWhateverTheValue(t *testing.T) {
	o := open(api.Sample{T: 5, V: 9})
	for _, v := range []uint64{0, 1, 8, 9, 10, top} {
		checkRefused(t, o, api.Sample{T: 5, V: v})
		checkRefused(t, o, api.Sample{T: 4, V: v})
		checkAdded(t, o, api.Sample{T: 6, V: v})
	}
}

func Test13_1NothingIsRefusedWhereNothingCame(t *testing.T) {
	for _, last := range edges {
		for _, x := range edges {
			checkAdded(t, api.Open{Last: last}, api.Sample{T: x, V: 3})
			checkAdded(t, api.Open{Last: last, List: at(last, 0)}, api.Sample{T: x, V: 3})
		}
	}
}

func Test13_1LastCountsAndNotTheList(t *testing.T) {
	o := api.Open{Any: true, Last: 10, List: at(100, 200)}
	checkAdded(t, o, api.Sample{T: 11})
	checkRefused(t, o, api.Sample{T: 10})
	o.Last = 1000
	checkRefused(t, o, api.Sample{T: 201})
	checkRefused(t, o, api.Sample{T: 1000})
	checkAdded(t, o, api.Sample{T: 1001})
}

func Test13_1AFullListIsAddedTo(t *testing.T) {
	o := api.Open{}
	for i := range 300 {
		checkCounts(t, o, i >= 8, 16*i)
		o = checkAdded(t, o, api.Sample{T: int64(i), V: uint64(i) << 50})
		checkRefused(t, o, api.Sample{T: int64(i)})
	}
	for i, s := range o.List {
		if s != (api.Sample{T: int64(i), V: uint64(i) << 50}) {
			t.Fatal(i, s)
		}
	}
}

func Test13_1FullAndSizeCountTheList(t *testing.T) {
	for n := range 40 {
		for _, o := range []api.Open{
			{List: clock(n)}, {Any: true, List: clock(n)}, {Any: true, Last: far, List: clock(n)}, {Last: near, List: clock(n)},
			{Any: true, List: roomy(clock(n), 20)}, {Any: true, List: slices.Repeat(at(5), n)},
		} {
			checkCounts(t, o, n >= 8, 16*n)
		}
	}
	checkCounts(t, open(clock(65536)...), true, 1<<20)
}

func Test13_1KnownChunks(t *testing.T) {
	one := []byte{1, 1, 2, 2, 8, 0, 0, 0, 0, 0, 0, 0, 1, 0, 0, 0, 0, 0, 0, 0, 5, 0xa8, 0x6a, 0xcc, 0xe6}
	checkClosed(t, open(api.Sample{T: 1, V: 5}), one)
	three := []byte{1, 3, 0, 4, 10, 0, 0, 0, 0, 0, 0, 0, 0, 0x80, 0x80, 0, 0, 0, 0, 0, 0, 0, 5, 0xfe, 0xf8, 0, 0, 0, 0x0c, 0, 0, 0, 0x02, 0xb0, 0x2f, 0x68, 0xbd}
	l := []api.Sample{{T: 0, V: 5}, {T: 1, V: 7}, {T: 2, V: 5}}
	checkClosed(t, open(l...), three)
	checkClosed(t, api.Open{List: l}, three)
	checkClosed(t, api.Open{Any: true, Last: 1000, List: roomy(l, 5)}, three)
}

func Test13_1CloseIsByTXorOfAllTheList(t *testing.T) {
	m := mixer(1)
	for range 2000 {
		o := m.rising()
		checkClose(t, o)
		b, _ := appd.Close(o)
		if len(o.List) == 0 {
			if len(b) != 0 {
				t.Fatal(b)
			}
			continue
		}
		if l, tag, ok := chnk.Open(b); !ok || tag != api.TXor || !slices.Equal(l, o.List) {
			t.Fatal(show(o), l, tag, ok)
		}
	}
}

func Test13_1CloseOfNoneKeepsWhatCame(t *testing.T) {
	for _, last := range edges {
		for _, any := range []bool{false, true} {
			checkClosed(t, api.Open{Any: any, Last: last}, nil)
			checkClosed(t, api.Open{Any: any, Last: last, List: []api.Sample{}}, nil)
			checkClosed(t, api.Open{Any: any, Last: last, List: roomy(nil, 4)}, nil)
			checkClose(t, api.Open{Any: any, Last: last, List: at(3)})
		}
	}
}

func Test13_1CloseOfLongLists(t *testing.T) {
	checkClose(t, open(clock(65534)...))
	b, rest := appd.Close(open(clock(65535)...))
	if l, _, ok := chnk.Open(b); !ok || !slices.Equal(l, clock(65535)) {
		t.Fatal(len(b), len(l), ok)
	}
	checkSame(t, "long", rest, api.Open{Any: true, Last: 65534})
	checkClosed(t, open(clock(65536)...), nil)
}

func Test13_1CloseOfWhatDoesNotRise(t *testing.T) {
	for _, l := range [][]api.Sample{at(5, 5), at(5, 4), at(far, near), at(0, 1, 2, 1, 3), append(clock(8), at(0)...)} {
		checkClosed(t, open(l...), nil)
		checkClosed(t, api.Open{List: l}, nil)
		checkClosed(t, api.Open{Any: true, Last: far, List: l}, nil)
	}
}

func Test13_1BesideTheModel(t *testing.T) {
	m := mixer(2)
	count := [3]int{}
	for range 20000 {
		o := m.any()
		if _, ok := checkAdd(t, o, m.sample()); ok {
			count[0]++
		} else {
			count[1]++
		}
		if b, _ := appd.Close(o); len(b) > 0 {
			count[2]++
		}
		checkClose(t, o)
		checkCounts(t, o, len(o.List) > 7, 16*len(o.List))
	}
	for _, n := range count {
		if n < 500 {
			t.Fatal("too few of a kind were tried", count)
		}
	}
}

func Test13_1WhatIsHandedInIsNotChanged(t *testing.T) {
	m := mixer(3)
	for range 2000 {
		o := m.any()
		o.List = roomy(o.List, m.below(12))
		want := slices.Clone(o.List[:cap(o.List)])
		appd.Add(o, m.sample())
		appd.Full(o)
		appd.Close(o)
		appd.Size(o)
		if got := o.List[:cap(o.List)]; !slices.Equal(got, want) {
			t.Fatalf("changed: %v, not %v", got, want)
		}
	}
}

// overwrite writes over all that a list holds, and over the spare room behind it.
func overwrite[T any](l []T, x T) {
	l = l[:cap(l)]
	for i := range l {
		l[i] = x
	}
}

func Test13_1WhatIsAnsweredIsNewMemory(t *testing.T) {
	m := mixer(4)
	for range 2000 {
		o := m.any()
		o.List = roomy(o.List, m.below(12))
		want := slices.Clone(o.List[:cap(o.List)])
		s := m.sample()
		added, _ := appd.Add(o, s)
		again, _ := appd.Add(o, s)
		kept := slices.Clone(again.List)
		b, rest := appd.Close(o)
		made, _ := appd.Close(o)
		sealed := bytes.Clone(made)
		overwrite(added.List, api.Sample{T: -1, V: top})
		overwrite(rest.List, api.Sample{T: -1, V: top})
		overwrite(b, 0x55)
		if got := o.List[:cap(o.List)]; !slices.Equal(got, want) {
			t.Fatalf("lent: %v, not %v", got, want)
		}
		if !slices.Equal(again.List, kept) || !bytes.Equal(made, sealed) {
			t.Fatal("two answers share memory")
		}
	}
}

func Test13_1WhatIsHandedInIsNotKept(t *testing.T) {
	m := mixer(5)
	for range 2000 {
		o, s := m.any(), m.sample()
		want, e := appd.Add(api.Open{Any: o.Any, Last: o.Last, List: slices.Clone(o.List)}, s)
		whole, _ := appd.Close(want)
		got, _ := appd.Add(o, s)
		overwrite(o.List, api.Sample{T: -1, V: top})
		checkSame(t, fmt.Sprint("kept, error ", e), got, want)
		if b, _ := appd.Close(got); !bytes.Equal(b, whole) {
			t.Fatalf("% x, not % x", b, whole)
		}
	}
}

func Test13_1TwoThatComeBehindTheSameListAreApart(t *testing.T) {
	o := api.Open{}
	for i := range int64(40) {
		a := checkAdded(t, o, api.Sample{T: 10 * i, V: 1})
		b := checkAdded(t, o, api.Sample{T: 10*i + 5, V: 2})
		c := checkAdded(t, a, api.Sample{T: 10*i + 1, V: 3})
		d := checkAdded(t, a, api.Sample{T: 10*i + 2, V: 4})
		n := len(o.List)
		if a.List[n].V != 1 || b.List[n].V != 2 || c.List[n+1].V != 3 || d.List[n+1].V != 4 {
			t.Fatal(i, a, b, c, d)
		}
		o = a
	}
}

// log is all that came to an open list, one behind the other, of which so many were closed.
type log struct {
	all    []api.Sample
	closed int
}

// open is the open list that the log comes to.
func (g log) open() api.Open {
	o := open(g.all...)
	o.List = g.all[g.closed:]
	return o
}

// add is the log with s behind it, if time allows it.
func (g log) add(s api.Sample) (log, api.Errno) {
	for _, x := range g.all {
		if s.T <= x.T {
			return g, api.ErrOrder
		}
	}
	return log{slices.Concat(g.all, []api.Sample{s}), g.closed}, api.OK
}

// hand is an open list beside its log, and all that came out of it by chunks.
type hand struct {
	log  log
	open api.Open
	out  []api.Sample
}

func (h *hand) add(t *testing.T, s api.Sample) api.Errno {
	t.Helper()
	var want api.Errno
	h.log, want = h.log.add(s)
	next, e := appd.Add(h.open, s)
	if e != want {
		t.Fatalf("Add(%s, %v) is error %d, not %d", show(h.open), s, e, want)
	}
	h.open = next
	h.check(t)
	return e
}

func (h *hand) close(t *testing.T) {
	t.Helper()
	b, next := appd.Close(h.open)
	l, tag, ok := chnk.Open(b)
	if ok != (len(h.open.List) > 0) || ok && tag != api.TXor || !ok && len(b) > 0 {
		t.Fatalf("Close(%s) is % x", show(h.open), b)
	}
	h.open, h.out, h.log.closed = next, append(h.out, l...), len(h.log.all)
	h.check(t)
}

// check holds the open list to its log, and that each that came is in a chunk or in the list, once, in their order.
func (h *hand) check(t *testing.T) {
	t.Helper()
	checkSame(t, "log", h.open, h.log.open())
	if all := slices.Concat(h.out, h.open.List); !slices.Equal(all, h.log.all) {
		t.Fatalf("%v came, not %v", all, h.log.all)
	}
	checkCounts(t, h.open, len(h.log.all)-h.log.closed >= 8, 16*(len(h.log.all)-h.log.closed))
}

func Test13_2TimeGoesOnBehindAChunk(t *testing.T) {
	for i, last := range edges {
		o := checkClose(t, checkAdded(t, api.Open{}, api.Sample{T: last, V: 5}))
		for range 3 {
			for k, x := range edges {
				if _, ok := checkAdd(t, o, api.Sample{T: x}); ok != (k > i) {
					t.Fatal(last, x, ok)
				}
			}
			o = checkClose(t, o)
		}
	}
}

func Test13_2WhatIsRefusedDoesNothing(t *testing.T) {
	m := mixer(6)
	for range 500 {
		var h, only hand
		for range m.below(40) {
			s := m.sample()
			if h.add(t, s) == api.OK {
				only.add(t, s)
			}
			if m.below(6) == 0 {
				h.close(t)
				only.close(t)
			}
			checkSame(t, "only what came", h.open, only.open)
		}
	}
}

func Test13_2EachWayToFewSamples(t *testing.T) {
	const ways, length = 4, 6
	for way := range 1 << (2 * length) {
		var h hand
		for i := range length {
			switch x := way >> (2 * i) % ways; x {
			case 3:
				h.close(t)
			default:
				h.add(t, api.Sample{T: int64(x) - 1, V: uint64(i)})
			}
		}
	}
}

func Test13_2ManySamplesInOneOrder(t *testing.T) {
	m := mixer(7)
	count := [2]int{}
	for range 300 {
		var h hand
		now := int64(m.next())
		for range 60 {
			switch m.below(12) {
			case 0:
				h.close(t)
			case 1:
				h.add(t, m.sample())
			case 2, 3:
				h.add(t, api.Sample{T: h.open.Last, V: m.next()})
			default:
				now = max(now, h.open.Last) + int64(m.below(9)) - 2
				if h.add(t, api.Sample{T: now, V: m.next() >> m.below(64)}) == api.OK {
					count[0]++
				} else {
					count[1]++
				}
			}
			if appd.Full(h.open) {
				h.close(t)
			}
		}
		for i := range h.log.all {
			if i > 0 && h.log.all[i].T <= h.log.all[i-1].T {
				t.Fatal("time went back", h.log.all)
			}
		}
	}
	if count[0] < 2000 || count[1] < 1000 {
		t.Fatal("too few of a kind were tried", count)
	}
}

func Test13_3NoCallPanics(t *testing.T) {
	m := mixer(8)
	for range 3000 {
		o := m.any()
		for range m.below(20) {
			next, _ := appd.Add(o, m.sample())
			appd.Full(next)
			if m.below(4) == 0 {
				_, next = appd.Close(next)
			}
			if appd.Size(next) < 0 {
				t.Fatal(show(next))
			}
			o = next
		}
	}
	for _, n := range []int{0, 1, 7, 8, 9, 65535, 65536, 70000} {
		for _, l := range [][]api.Sample{clock(n), make([]api.Sample, n), slices.Repeat(at(far), n)} {
			for _, o := range []api.Open{{List: l}, open(l...), {Any: true, Last: far, List: l}, {Any: true, Last: near, List: l}} {
				checkAdd(t, o, api.Sample{T: far, V: top})
				checkAdd(t, o, api.Sample{T: near, V: top})
				checkClose(t, o)
				checkCounts(t, o, n >= 8, 16*n)
			}
		}
	}
}
