package dire_test

import (
	"fmt"
	"math"
	"slices"
	"testing"

	"ephemeris/api"
	"ephemeris/dire"
)

// ends are numbers that are no slots.
var ends = []int{math.MinInt, math.MinInt + 1, -1 << 32, 5 - 1<<32, -16, -15, -2, -1, 16, 17, 31, 32, 255, 256, 1 << 31, 1 << 32, 1<<32 + 5, math.MaxInt - 15, math.MaxInt}

// names are who may have a flag: any number is one.
var names = []int{math.MinInt, -1 << 32, -2, -1, 0, 1, 2, 3, 7, 8, 15, 16, 1000, 1 << 31, 1 << 32, math.MaxInt}

func same(a, b api.Slot) bool {
	return a.There == b.There && a.Sealed == b.Sealed && a.Life == b.Life && a.Ver == b.Ver &&
		a.Open.Any == b.Open.Any && a.Open.Last == b.Open.Last && slices.Equal(a.Open.List, b.Open.List) && slices.Equal(a.Chunks, b.Chunks)
}

// cloned is s with lists of its own.
func cloned(s api.Slot) api.Slot {
	s.Open.List = slices.Clone(s.Open.List)
	s.Chunks = slices.Clone(s.Chunks)
	return s
}

// full is a slot whose fields all tell n, with a list of n%4 samples and one of n%3 parts.
func full(n int) api.Slot {
	s := api.Slot{There: n%2 == 0, Sealed: n%3 == 0, Life: n, Ver: n * 7, Open: api.Open{Any: n%5 != 0, Last: int64(-n)}}
	for i := range n % 4 {
		s.Open.List = append(s.Open.List, api.Sample{T: int64(n + i), V: uint64(n * 1000)})
	}
	for i := range n % 3 {
		s.Chunks = append(s.Chunks, api.Part{Blob: n, Tag: i + 1, Count: n + 2, From: int64(n) << 40, To: int64(n)<<40 + 9})
	}
	return s
}

// The world beside which the package is held: a log of all that was ever taken and left, of which each answer is counted anew.

type world []entry

// entry is a flag that was taken, or a slot that was left.
type entry struct {
	id, who int
	left    bool
	slot    api.Slot
}

// of tells what was written down of a slot.
func (w world) of(id int) []entry {
	var l []entry
	for _, e := range w {
		if e.id == id {
			l = append(l, e)
		}
	}
	return l
}

func (w world) flag(id int) (int, bool) {
	l := w.of(id)
	if len(l) == 0 || l[len(l)-1].left {
		return 0, false
	}
	return l[len(l)-1].who, true
}

func (w world) look(id int) (api.Slot, bool) {
	if _, taken := w.flag(id); taken || id < 0 || id > 15 {
		return api.Slot{}, false
	}
	l := w.of(id)
	if len(l) == 0 {
		return api.Slot{}, true
	}
	s := l[len(l)-1].slot
	s.Ver = len(l)
	return s, true
}

func (w *world) take(id, who int) bool {
	if _, taken := w.flag(id); taken || id < 0 || id > 15 {
		return false
	}
	*w = append(*w, entry{id: id, who: who})
	return true
}

func (w *world) leave(id, who int, s api.Slot) bool {
	if owner, taken := w.flag(id); !taken || owner != who {
		return false
	}
	*w = append(*w, entry{id, who, true, cloned(s)})
	return true
}

// differs tells where a directory and its world are unlike, or nothing.
func (w world) differs(d *dire.Dir) string {
	for id := -2; id <= 17; id++ {
		if unlike := w.differsAt(d, id); unlike != "" {
			return unlike
		}
	}
	for _, id := range ends {
		if unlike := w.differsAt(d, id); unlike != "" {
			return unlike
		}
	}
	return ""
}

func (w world) differsAt(d *dire.Dir, id int) string {
	who, taken := d.Flag(id)
	wantWho, wantTaken := w.flag(id)
	if who != wantWho || taken != wantTaken {
		return fmt.Sprintf("flag of %d: %d %t, want %d %t", id, who, taken, wantWho, wantTaken)
	}
	s, ok := d.Look(id)
	want, wantOk := w.look(id)
	if ok != wantOk || !same(s, want) {
		return fmt.Sprintf("slot %d: %v %t, want %v %t", id, s, ok, want, wantOk)
	}
	return ""
}

// call is one that changes a directory: Leave of a slot, or Take.
type call struct {
	leave   bool
	id, who int
	slot    api.Slot
}

func (c call) String() string {
	if c.leave {
		return fmt.Sprintf("Leave(%d, %d, %v)", c.id, c.who, c.slot)
	}
	return fmt.Sprintf("Take(%d, %d)", c.id, c.who)
}

// both does a call in a directory and in its world, and tells where they are unlike.
func (c call) both(d *dire.Dir, w *world) string {
	var got, want bool
	if c.leave {
		got, want = d.Leave(c.id, c.who, c.slot), w.leave(c.id, c.who, c.slot)
	} else {
		got, want = d.Take(c.id, c.who), w.take(c.id, c.who)
	}
	if got != want {
		return fmt.Sprintf("%v: %t, want %t", c, got, want)
	}
	return ""
}

// bothThenAll is both, and looks at all there is.
func (c call) bothThenAll(d *dire.Dir, w *world) string {
	unlike := c.both(d, w)
	if unlike == "" {
		unlike = w.differs(d)
	}
	if unlike != "" {
		return fmt.Sprintf("%v: %s", c, unlike)
	}
	return ""
}

// mixer gives numbers that look like any.
type mixer uint64

func (m *mixer) next() uint64 {
	*m += 0x9e3779b97f4a7c15
	z := uint64(*m)
	z = (z ^ z>>30) * 0xbf58476d1ce4e5b9
	z = (z ^ z>>27) * 0x94d049bb133111eb
	return z ^ z>>31
}

func (m *mixer) below(n int) int {
	return int(m.next() % uint64(n))
}

// call is any call, mostly of few slots and by few.
func (m *mixer) call() call {
	c := call{leave: m.below(2) == 0, id: m.below(18) - 1, who: m.below(3), slot: full(m.below(1000))}
	switch m.below(8) {
	case 0:
		c.id = ends[m.below(len(ends))]
	case 1, 2, 3:
		c.id = m.below(2) * 15
	case 4:
		c.who = names[m.below(len(names))]
	}
	return c
}

// written puts s in a slot.
func written(t *testing.T, d *dire.Dir, id int, s api.Slot) {
	t.Helper()
	if !d.Take(id, 4) || !d.Leave(id, 4, s) {
		t.Fatal("not written:", id)
	}
}

// looked is a slot that can be looked at.
func looked(t *testing.T, d *dire.Dir, id int) api.Slot {
	t.Helper()
	s, ok := d.Look(id)
	if !ok {
		t.Fatal("not to be looked at:", id)
	}
	return s
}

func Test18_1New(t *testing.T) {
	d := dire.New()
	if unlike := (world{}).differs(d); unlike != "" {
		t.Error(unlike)
	}
	for id := range 16 {
		if s := looked(t, d, id); !same(s, api.Slot{}) {
			t.Error(id, s)
		}
	}
}

// Test18_1Example is the chapter's own example.
func Test18_1Example(t *testing.T) {
	if s, ok := dire.New().Look(16); ok || !same(s, api.Slot{}) {
		t.Error(s, ok)
	}
}

func Test18_1ByHand(t *testing.T) {
	one := api.Slot{There: true, Life: 2, Open: api.Open{Any: true, Last: 7, List: []api.Sample{{T: 7, V: 9}}}}
	two := api.Slot{There: true, Sealed: true, Life: 2, Ver: 1 << 40, Chunks: []api.Part{{Blob: 3, Tag: api.TXor, Count: 1, From: 7, To: 7}}}
	d := dire.New()
	for i, c := range []struct {
		call
		did   bool
		owner int
		taken bool
		ver   int // of the slot that Look tells then, where it isn't taken
		slot  api.Slot
	}{
		{call{leave: true, id: 3, who: 0, slot: one}, false, 0, false, 0, api.Slot{}}, // nobody has it, not even 0
		{call{id: 3, who: 0}, true, 0, true, 0, api.Slot{}},
		{call{id: 3, who: 0}, false, 0, true, 0, api.Slot{}},
		{call{id: 3, who: 1}, false, 0, true, 0, api.Slot{}},
		{call{leave: true, id: 3, who: 1, slot: one}, false, 0, true, 0, api.Slot{}},
		{call{leave: true, id: 3, who: -1, slot: one}, false, 0, true, 0, api.Slot{}},
		{call{leave: true, id: 3, who: 0, slot: one}, true, 0, false, 2, one},
		{call{leave: true, id: 3, who: 0, slot: two}, false, 0, false, 2, one}, // it has it no more
		{call{id: 3, who: 1000}, true, 1000, true, 0, api.Slot{}},
		{call{leave: true, id: 3, who: 0, slot: two}, false, 1000, true, 0, api.Slot{}},
		{call{leave: true, id: 3, who: 1000, slot: one}, true, 0, false, 4, one}, // left as it was, it has another Ver
		{call{id: 3, who: -8}, true, -8, true, 0, api.Slot{}},
		{call{leave: true, id: 3, who: -8, slot: two}, true, 0, false, 6, two}, // Open goes with all else
		{call{id: 3, who: 1}, true, 1, true, 0, api.Slot{}},
		{call{leave: true, id: 3, who: 1}, true, 0, false, 8, api.Slot{}}, // but Ver goes on
	} {
		var did bool
		if c.leave {
			did = d.Leave(c.id, c.who, c.call.slot)
		} else {
			did = d.Take(c.id, c.who)
		}
		owner, taken := d.Flag(3)
		if did != c.did || owner != c.owner || taken != c.taken {
			t.Error(i, c.call, did, owner, taken)
		}
		want := c.slot
		want.Ver = c.ver
		if s, ok := d.Look(3); ok == taken || !same(s, want) {
			t.Error(i, c.call, s, ok)
		}
	}
}

// Test18_1EachPairOfSlots has the flag of one slot, then of another one: nothing of one is the other's.
func Test18_1EachPairOfSlots(t *testing.T) {
	for a := range 16 {
		for b := range 16 {
			d, w := dire.New(), world{}
			for _, c := range []call{
				{id: a, who: 5}, {id: b, who: 5}, {leave: true, id: b, who: 5, slot: full(11)}, {id: b, who: 6},
				{leave: true, id: a, who: 5, slot: full(14)}, {leave: true, id: b, who: 6, slot: full(23)}, {leave: true, id: a, who: 6, slot: full(5)},
			} {
				if unlike := c.bothThenAll(d, &w); unlike != "" {
					t.Fatal(a, b, unlike)
				}
			}
		}
	}
}

func Test18_1NoSlots(t *testing.T) {
	d := dire.New()
	for id := range 16 {
		written(t, d, id, full(id+1))
		d.Take(id, 3)
	}
	for _, id := range ends {
		for _, who := range names {
			if d.Take(id, who) || d.Leave(id, who, full(7)) {
				t.Error(id, who)
			}
		}
		if who, ok := d.Flag(id); ok || who != 0 {
			t.Error(id, who, ok)
		}
		if s, ok := d.Look(id); ok || !same(s, api.Slot{}) {
			t.Error(id, s, ok)
		}
	}
	for id := range 16 {
		if who, ok := d.Flag(id); who != 3 || !ok {
			t.Error(id, who, ok)
		}
		if !d.Leave(id, 3, full(id)) || looked(t, d, id).Ver != 4 {
			t.Error(id)
		}
	}
}

// Test18_1EachPairOfNames lets one have a flag that another one asks for.
func Test18_1EachPairOfNames(t *testing.T) {
	for _, a := range names {
		for _, b := range names {
			d, w := dire.New(), world{}
			for _, c := range []call{
				{leave: true, id: 9, who: a, slot: full(1)}, {id: 9, who: a}, {id: 9, who: b}, {leave: true, id: 9, who: b, slot: full(8)},
				{id: 9, who: b}, {leave: true, id: 9, who: a, slot: full(9)}, {leave: true, id: 9, who: b, slot: full(10)}, {leave: true, id: 9, who: b, slot: full(11)},
			} {
				if unlike := c.bothThenAll(d, &w); unlike != "" {
					t.Fatal(a, b, unlike)
				}
			}
		}
	}
}

// Test18_1FewCallsAfterEachOther does each row of five of few calls.
func Test18_1FewCallsAfterEachOther(t *testing.T) {
	calls := []call{
		{id: 0, who: 0}, {id: 0, who: 1}, {id: 15, who: 0}, {id: 16, who: 0},
		{leave: true, id: 0, who: 0, slot: full(7)}, {leave: true, id: 0, who: 1, slot: full(17)}, {leave: true, id: 0, who: 1},
		{leave: true, id: 15, who: 0, slot: full(22)}, {leave: true, id: 16, who: 0, slot: full(13)},
	}
	for n := range 9 * 9 * 9 * 9 * 9 {
		d, w := dire.New(), world{}
		for rest, i := n, 0; i < 5; rest, i = rest/len(calls), i+1 {
			c := calls[rest%len(calls)]
			if unlike := c.both(d, &w); unlike != "" {
				t.Fatal(n, unlike)
			}
			for _, id := range []int{0, 1, 15, 16} {
				if unlike := w.differsAt(d, id); unlike != "" {
					t.Fatal(n, c, unlike)
				}
			}
		}
	}
}

func Test18_1LongRows(t *testing.T) {
	m := mixer(18)
	for range 200 {
		d, w := dire.New(), world{}
		for range 100 {
			if unlike := m.call().bothThenAll(d, &w); unlike != "" {
				t.Fatal(len(w), unlike)
			}
		}
	}
}

// Test18_1EachField leaves slots that tell something in one field alone, whatever was there, as far as numbers go.
func Test18_1EachField(t *testing.T) {
	slots := []api.Slot{
		{}, {There: true}, {Sealed: true}, {Open: api.Open{Any: true}},
		{Open: api.Open{List: []api.Sample{{}}}}, {Open: api.Open{List: []api.Sample{{T: 2}, {T: 1}, {T: 1}}}}, {Chunks: []api.Part{{}}}, {Chunks: []api.Part{{}, {}}},
	}
	for _, n := range []int{math.MinInt, -1 << 32, -1, 1, 2, 1 << 32, math.MaxInt} {
		slots = append(slots, api.Slot{Life: n}, api.Slot{Ver: n}, api.Slot{Open: api.Open{Last: int64(n)}},
			api.Slot{Open: api.Open{List: []api.Sample{{T: int64(n)}}}}, api.Slot{Open: api.Open{List: []api.Sample{{V: uint64(n)}}}},
			api.Slot{Chunks: []api.Part{{Blob: n}}}, api.Slot{Chunks: []api.Part{{Tag: n}}}, api.Slot{Chunks: []api.Part{{Count: n}}},
			api.Slot{Chunks: []api.Part{{From: int64(n)}}}, api.Slot{Chunks: []api.Part{{To: int64(n)}}})
	}
	for _, before := range slots {
		for _, s := range slots {
			d := dire.New()
			written(t, d, 2, before)
			written(t, d, 2, s)
			want := s
			want.Ver = 4
			if got := looked(t, d, 2); !same(got, want) {
				t.Error(before, got, want)
			}
		}
	}
}

// Test18_1Ver takes and leaves many times: Ver is twice how often, whatever is told of it.
func Test18_1Ver(t *testing.T) {
	d := dire.New()
	for i := range 5000 {
		if got := looked(t, d, 6); got.Ver != 2*i {
			t.Fatal(i, got)
		}
		s := full(i)
		s.Ver = []int{0, 1, 2*i + 1, math.MaxInt, math.MinInt, -1}[i%6]
		written(t, d, 6, s)
	}
	if got := looked(t, d, 5); got.Ver != 0 {
		t.Error(got)
	}
}

func Test18_1LongLists(t *testing.T) {
	var s api.Slot
	for i := range 3000 {
		s.Open.List = append(s.Open.List, api.Sample{T: int64(i), V: uint64(i) << 50})
		s.Chunks = append(s.Chunks, api.Part{Blob: i, Tag: 1, Count: i, From: int64(i), To: int64(i)})
	}
	d := dire.New()
	written(t, d, 15, s)
	s.Ver = 2
	if !same(looked(t, d, 15), s) {
		t.Error("not the same")
	}
}

func Test18_1SeveralDirectories(t *testing.T) {
	a, b := dire.New(), dire.New()
	written(t, a, 1, full(7))
	a.Take(2, 3)
	if unlike := (world{}).differs(b); unlike != "" {
		t.Error(unlike)
	}
	if !b.Take(2, 4) || b.Leave(2, 3, full(8)) || a.Leave(2, 4, full(8)) {
		t.Error("a flag of one is another one's")
	}
}

// roomy is l with room behind it that holds x.
func roomy[T any](l []T, x T) []T {
	whole := append(append(make([]T, 0, len(l)+3), l...), x, x, x)
	return whole[:len(l)]
}

// overwrite puts x all over a list, and over its spare room.
func overwrite[T any](l []T, x T) {
	whole := l[:cap(l)]
	for i := range whole {
		whole[i] = x
	}
}

// spoil overwrites both lists of a slot.
func spoil(s api.Slot) {
	overwrite(s.Open.List, api.Sample{T: 666, V: 666})
	overwrite(s.Chunks, api.Part{Blob: 666, Tag: 666, Count: 666, From: 666, To: 666})
}

// Test18_1HandedIn looks whether Leave keeps or changes what it is given, and its spare room.
func Test18_1HandedIn(t *testing.T) {
	for n := range 24 {
		for _, leaver := range []int{4, 5} {
			mark, part := api.Sample{T: 12, V: 13}, api.Part{Blob: 14, To: 15}
			s := full(n)
			s.Open.List, s.Chunks = roomy(s.Open.List, mark), roomy(s.Chunks, part)
			d := dire.New()
			d.Take(8, 4)
			d.Leave(8, leaver, s)
			if !same(s, full(n)) || !slices.Equal(s.Open.List[len(s.Open.List):cap(s.Open.List)], []api.Sample{mark, mark, mark}) || !slices.Equal(s.Chunks[len(s.Chunks):cap(s.Chunks)], []api.Part{part, part, part}) {
				t.Error(n, s)
			}
			if leaver != 4 {
				continue
			}
			spoil(s)
			want := full(n)
			want.Ver = 2
			if got := looked(t, d, 8); !same(got, want) {
				t.Error(n, got)
			}
		}
	}
}

// Test18_1Answered overwrites what Look tells, and its spare room.
func Test18_1Answered(t *testing.T) {
	for n := range 24 {
		d := dire.New()
		written(t, d, 8, full(n))
		want := full(n)
		want.Ver = 2
		first, second := looked(t, d, 8), looked(t, d, 8)
		spoil(first)
		third := looked(t, d, 8)
		if !same(second, want) || !same(third, want) {
			t.Error(n, second, third)
		}
		written(t, d, 8, full(n+5))
		if !same(second, want) {
			t.Error(n, second)
		}
	}
}

// Test18_1LeftAsItWas leaves what Look told, in the same slot and in another one: they share nothing.
func Test18_1LeftAsItWas(t *testing.T) {
	d := dire.New()
	written(t, d, 8, full(11))
	was := looked(t, d, 8)
	written(t, d, 8, was)
	written(t, d, 9, was)
	spoil(was)
	spoil(looked(t, d, 9))
	want := full(11)
	want.Ver = 4
	if got := looked(t, d, 8); !same(got, want) {
		t.Error(got)
	}
	want.Ver = 2
	if got := looked(t, d, 9); !same(got, want) {
		t.Error(got)
	}
}

// writer looks at a slot, takes its flag, and leaves it with one sample more, each in a step of its own, as steps are picked.
type writer struct {
	who   int
	at    int
	saw   api.Slot
	wrote int
}

// step is one step; a writer that saw a slot which another one wrote since looks again.
func (x *writer) step(t *testing.T, d *dire.Dir) {
	switch x.at {
	case 0:
		s, ok := d.Look(3)
		if ok {
			x.saw, x.at = s, 1
		}
	case 1:
		now, ok := d.Look(3)
		if ok && now.Ver != x.saw.Ver {
			x.at = 0
		} else if d.Take(3, x.who) {
			x.at = 2
		}
	case 2:
		x.saw.Open.List = append(x.saw.Open.List, api.Sample{T: int64(len(x.saw.Open.List)), V: uint64(x.who)})
		if !d.Leave(3, x.who, x.saw) {
			t.Fatal(x.who, "can't leave")
		}
		x.wrote++
		x.at = 0
	}
}

// Test18_2Writers lets several write one slot: what one is writing nobody looks at, and nothing that was left is lost.
func Test18_2Writers(t *testing.T) {
	m := mixer(4)
	for range 50 {
		d := dire.New()
		writers := make([]*writer, 4)
		for i := range writers {
			writers[i] = &writer{who: i}
		}
		seen, sum := map[int]api.Slot{}, 0
		for range 300 {
			x := writers[m.below(len(writers))]
			x.step(t, d)
			busy := 0
			for _, y := range writers {
				if y.at == 2 {
					busy++
				}
			}
			who, taken := d.Flag(3)
			s, ok := d.Look(3)
			if busy > 1 || taken != (busy == 1) || ok == taken || taken && writers[who].at != 2 {
				t.Fatal(busy, who, taken, ok)
			}
			if !ok {
				continue
			}
			if before, was := seen[s.Ver]; was && !same(before, s) {
				t.Fatal(before, s)
			}
			seen[s.Ver] = s
			sum = len(s.Open.List)
			wrote := 0
			for _, y := range writers {
				wrote += y.wrote
			}
			if sum != wrote || s.Ver != 2*wrote {
				t.Fatal(sum, wrote, s.Ver)
			}
		}
		if sum == 0 {
			t.Fatal("nobody wrote")
		}
	}
}

// Test18_2OneFlag lets all ask for each flag: one alone has it, until that one leaves.
func Test18_2OneFlag(t *testing.T) {
	d := dire.New()
	for round := range 40 {
		for id := range 16 {
			got := 0
			for i := range names {
				if d.Take(id, names[(i+round+id)%len(names)]) {
					got++
				}
				if _, ok := d.Look(id); ok {
					t.Fatal(round, id, "looked at")
				}
			}
			first := names[(round+id)%len(names)]
			for _, who := range names {
				if who != first && d.Leave(id, who, full(round)) {
					t.Fatal(round, id, who)
				}
			}
			if got != 1 || !d.Leave(id, first, full(round)) {
				t.Fatal(round, id, got)
			}
		}
	}
}

func Test18_3NoPanic(t *testing.T) {
	d := dire.New()
	slots := []api.Slot{{}, {Ver: math.MaxInt, Life: math.MinInt}, {Open: api.Open{List: []api.Sample{}}, Chunks: []api.Part{}}, full(11), full(11)}
	for _, id := range append(slices.Clone(ends), 0, 1, 7, 15) {
		for _, who := range names {
			for _, s := range slots {
				d.Leave(id, who, s)
				d.Look(id)
				d.Flag(id)
				d.Take(id, who)
				d.Take(id, who)
				d.Look(id)
				d.Flag(id)
				d.Leave(id, who, s)
			}
		}
	}
}
