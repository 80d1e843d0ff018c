package blob_test

import (
	"bytes"
	"fmt"
	"math"
	"math/big"
	"testing"

	"ephemeris/blob"
)

// The world beside which the package is held: a log of all that was ever added, held, left and charged, of which each answer is counted anew, in numbers of any size.

type world struct {
	budget int64
	added  [][]byte // by number, the first at 0
	told   []told
}

// told is a change that was taken: of how often a number is held, or of what is charged where the number is 0.
type told struct {
	id, by int
}

func newWorld(budget int64) *world {
	return &world{budget: min(max(budget, 0), 1<<30)}
}

func (w *world) holds(id int) int {
	n := 0
	for _, d := range w.told {
		if d.id == id && id != 0 {
			n += d.by
		}
	}
	return n
}

func (w *world) charged() *big.Int {
	sum := big.NewInt(0)
	for _, d := range w.told {
		if d.id == 0 {
			sum.Add(sum, big.NewInt(int64(d.by)))
			if sum.Sign() < 0 {
				sum.SetInt64(0)
			}
		}
	}
	return sum
}

func (w *world) used() *big.Int {
	sum := w.charged()
	for i, b := range w.added {
		if w.holds(i+1) > 0 {
			sum.Add(sum, big.NewInt(int64(len(b))))
		}
	}
	return sum
}

func (w *world) fits(n int) bool {
	sum := w.used()
	return sum.Add(sum, big.NewInt(int64(n))).Cmp(big.NewInt(w.budget)) <= 0
}

func (w *world) add(b []byte) (int, bool) {
	if !w.fits(len(b)) {
		return 0, false
	}
	w.added = append(w.added, bytes.Clone(b))
	w.told = append(w.told, told{len(w.added), 1})
	return len(w.added), true
}

func (w *world) get(id int) ([]byte, bool) {
	if w.holds(id) == 0 {
		return nil, false
	}
	return w.added[id-1], true
}

func (w *world) change(id, by int) bool {
	if w.holds(id) == 0 {
		return false
	}
	w.told = append(w.told, told{id, by})
	return true
}

func (w *world) charge(n int) bool {
	if n > 0 && !w.fits(n) {
		return false
	}
	w.told = append(w.told, told{0, n})
	return true
}

// differs tells where a store and its world are unlike, or nothing: of each number there ever was, and of some that there never was.
func (w *world) differs(s *blob.Store) string {
	if got, want := s.Used(), w.used(); big.NewInt(int64(got)).Cmp(want) != 0 {
		return fmt.Sprintf("used %d, not %d", got, want)
	}
	ids := []int{math.MinInt, -1, 0, len(w.added) + 1, len(w.added) + 2, math.MaxInt}
	for i := range w.added {
		ids = append(ids, i+1)
	}
	for _, id := range ids {
		if got, want := s.Holds(id), w.holds(id); got != want {
			return fmt.Sprintf("%d is held %d times, not %d", id, got, want)
		}
		got, ok := s.Get(id)
		want, wantOk := w.get(id)
		if ok != wantOk || !bytes.Equal(got, want) {
			return fmt.Sprintf("%d is %x, %t, not %x, %t", id, got, ok, want, wantOk)
		}
	}
	return ""
}

// call is one of the calls that change a store: its letter (a h l c) and its number: of Add how many bytes.
type call struct {
	kind byte
	n    int
}

func (d call) String() string {
	return fmt.Sprintf("%c%d", d.kind, d.n)
}

// bytes is what Add is given: n bytes that no other number begins.
func (d call) bytes(begin int) []byte {
	b := make([]byte, d.n)
	for i := range b {
		b[i] = byte(begin*7 + i)
	}
	return b
}

// both does a call in a store and in its world, and tells where they are unlike.
func (d call) both(s *blob.Store, w *world) string {
	var got, want bool
	switch d.kind {
	case 'a':
		b := d.bytes(len(w.told))
		id, ok := s.Add(b)
		wantId, wantOk := w.add(b)
		got, want = ok, wantOk
		if id != wantId {
			return fmt.Sprintf("%v: %d, not %d", d, id, wantId)
		}
	case 'h':
		got, want = s.Hold(d.n), w.change(d.n, 1)
	case 'l':
		got, want = s.Leave(d.n), w.change(d.n, -1)
	case 'c':
		got, want = s.Charge(d.n), w.charge(d.n)
	}
	if got != want {
		return fmt.Sprintf("%v: %t, not %t", d, got, want)
	}
	if unlike := w.differs(s); unlike != "" {
		return fmt.Sprintf("%v: %s", d, unlike)
	}
	return ""
}

// mixer gives numbers that look like any.
type mixer uint64

func (m *mixer) next() uint64 {
	*m += 0x9e3779b97f4a7c15
	z := uint64(*m)
	z = (z ^ z>>30) * 0xbf58476d1ce4e5b9
	z = (z ^ z>>27) * 0x94d049bb133111eb
	return z ^ z>>31
}

func (m *mixer) below(n int) int {
	return int(m.next() % uint64(n))
}

// call is any call, about w's edges half of the time.
func (m *mixer) call(w *world) call {
	left := int(w.budget - w.used().Int64())
	kind := "aahllcc"[m.below(7)]
	about := []int{0, 1, left - 1, left, left + 1, m.below(left + 2)}[m.below(6)]
	switch kind {
	case 'a':
		return call{kind, max(about, 0)}
	case 'c':
		charged := int(w.charged().Int64())
		return call{kind, []int{about, about, -about, -charged, 1 - charged, -1 - charged, math.MaxInt, math.MinInt}[m.below(8)]}
	}
	return call{kind, m.below(len(w.added)+3) - 1}
}

func Test17_1New(t *testing.T) {
	for _, budget := range []int{math.MinInt, -1, 0, 1, 10, 1 << 30, math.MaxInt} {
		s, w := blob.New(budget), newWorld(int64(budget))
		if unlike := w.differs(s); unlike != "" {
			t.Error(budget, unlike)
		}
	}
}

func Test17_1Budget(t *testing.T) {
	for _, c := range []struct{ budget, most int }{
		{math.MinInt, 0}, {-1 << 30, 0}, {-1, 0}, {0, 0}, {1, 1}, {2, 2}, {1000, 1000}, {1<<30 - 1, 1<<30 - 1},
		{1 << 30, 1 << 30}, {1<<30 + 1, 1 << 30}, {1 << 31, 1 << 30}, {1 << 40, 1 << 30}, {math.MaxInt, 1 << 30},
	} {
		if blob.New(c.budget).Charge(c.most + 1) {
			t.Error(c.budget, "takes more than", c.most)
		}
		s := blob.New(c.budget)
		if !s.Charge(c.most) || s.Used() != c.most || s.Charge(1) {
			t.Error(c.budget, "does not take", c.most)
		}
		if _, ok := s.Add([]byte{1}); ok {
			t.Error(c.budget, "takes a byte more than", c.most)
		}
		if id, ok := s.Add(nil); id != 1 || !ok {
			t.Error(c.budget, "does not take no bytes")
		}
	}
}

// Test17_1Example is the chapter's own example.
func Test17_1Example(t *testing.T) {
	s := blob.New(0)
	if id, ok := s.Add([]byte{1}); id != 0 || ok || s.Used() != 0 {
		t.Error(id, ok, s.Used())
	}
}

func Test17_1ByHand(t *testing.T) {
	s := blob.New(20)
	for i, c := range []struct {
		call
		ok    bool
		used  int
		holds [5]int // of the numbers 0 to 4
	}{
		{call{'a', 8}, true, 8, [5]int{0, 1}},
		{call{'a', 13}, false, 8, [5]int{0, 1}}, // no number is used up
		{call{'a', 12}, true, 20, [5]int{0, 1, 1}},
		{call{'a', 1}, false, 20, [5]int{0, 1, 1}},
		{call{'a', 0}, true, 20, [5]int{0, 1, 1, 1}},
		{call{'h', 4}, false, 20, [5]int{0, 1, 1, 1}},
		{call{'h', 0}, false, 20, [5]int{0, 1, 1, 1}},
		{call{'h', 1}, true, 20, [5]int{0, 2, 1, 1}}, // held more often is no more bytes
		{call{'h', 1}, true, 20, [5]int{0, 3, 1, 1}},
		{call{'h', 3}, true, 20, [5]int{0, 3, 1, 2}},
		{call{'l', 1}, true, 20, [5]int{0, 2, 1, 2}},
		{call{'l', 2}, true, 8, [5]int{0, 2, 0, 2}},
		{call{'l', 2}, false, 8, [5]int{0, 2, 0, 2}},
		{call{'h', 2}, false, 8, [5]int{0, 2, 0, 2}}, // what is gone stays so
		{call{'c', 13}, false, 8, [5]int{0, 2, 0, 2}},
		{call{'c', 5}, true, 13, [5]int{0, 2, 0, 2}},
		{call{'c', 8}, false, 13, [5]int{0, 2, 0, 2}},
		{call{'c', 7}, true, 20, [5]int{0, 2, 0, 2}},
		{call{'c', 0}, true, 20, [5]int{0, 2, 0, 2}},
		{call{'c', 1}, false, 20, [5]int{0, 2, 0, 2}},
		{call{'l', 1}, true, 20, [5]int{0, 1, 0, 2}},
		{call{'l', 1}, true, 12, [5]int{0, 0, 0, 2}},
		{call{'c', -13}, true, 0, [5]int{0, 0, 0, 2}}, // never less than none
		{call{'a', 20}, true, 20, [5]int{0, 0, 0, 2, 1}},
		{call{'l', 3}, true, 20, [5]int{0, 0, 0, 1, 1}},
		{call{'l', 3}, true, 20, [5]int{0, 0, 0, 0, 1}},
		{call{'l', 4}, true, 0, [5]int{}},
	} {
		var ok bool
		switch c.kind {
		case 'a':
			_, ok = s.Add(make([]byte, c.n))
		case 'h':
			ok = s.Hold(c.n)
		case 'l':
			ok = s.Leave(c.n)
		case 'c':
			ok = s.Charge(c.n)
		}
		if ok != c.ok || s.Used() != c.used {
			t.Error(i, c.call, ok, s.Used())
		}
		for id, holds := range c.holds {
			if _, ok := s.Get(id); s.Holds(id) != holds || ok != (holds > 0) {
				t.Error(i, c.call, id, s.Holds(id), ok)
			}
		}
	}
	if id, ok := s.Add(nil); id != 5 || !ok {
		t.Error("a number is given twice:", id)
	}
}

// Test17_1FewCallsAfterEachOther does each row of five of few calls.
func Test17_1FewCallsAfterEachOther(t *testing.T) {
	calls := []call{{'a', 0}, {'a', 1}, {'a', 2}, {'h', 1}, {'h', 2}, {'l', 1}, {'l', 2}, {'c', 1}, {'c', 2}, {'c', -1}, {'c', -3}}
	for budget := range int64(4) {
		for n := range 11 * 11 * 11 * 11 * 11 {
			s, w := blob.New(int(budget)), newWorld(budget)
			for rest, i := n, 0; i < 5; rest, i = rest/len(calls), i+1 {
				if unlike := calls[rest%len(calls)].both(s, w); unlike != "" {
					t.Fatal(budget, n, w.told, unlike)
				}
			}
		}
	}
}

func Test17_1LongRows(t *testing.T) {
	m := mixer(17)
	for range 400 {
		budget := []int64{0, 1, 7, 40, 300, 5000}[m.below(6)]
		s, w := blob.New(int(budget)), newWorld(budget)
		for range 60 {
			if unlike := m.call(w).both(s, w); unlike != "" {
				t.Fatal(budget, w.told, unlike)
			}
		}
	}
}

// Test17_1Numbers adds and lets go again: no number comes a second time, and none is left out.
func Test17_1Numbers(t *testing.T) {
	s := blob.New(3)
	for i := range 5000 {
		if id, ok := s.Add([]byte{byte(i), 1, 2}); id != i+1 || !ok {
			t.Fatal(i, id, ok)
		}
		if id, ok := s.Add([]byte{1}); id != 0 || ok {
			t.Fatal(i, id, ok)
		}
		if got, ok := s.Get(i + 1); !ok || !bytes.Equal(got, []byte{byte(i), 1, 2}) {
			t.Fatal(i, got, ok)
		}
		if !s.Leave(i+1) || s.Used() != 0 || s.Leave(i+1) {
			t.Fatal(i, s.Used())
		}
	}
}

// Test17_1Alike adds the same bytes twice: they are kept as two.
func Test17_1Alike(t *testing.T) {
	s := blob.New(6)
	one, _ := s.Add([]byte("abc"))
	two, ok := s.Add([]byte("abc"))
	if one == two || !ok || s.Used() != 6 || s.Holds(one) != 1 || s.Holds(two) != 1 {
		t.Error(one, two, ok, s.Used())
	}
	if !s.Leave(one) || s.Used() != 3 {
		t.Error(s.Used())
	}
	if got, ok := s.Get(two); !ok || string(got) != "abc" {
		t.Error(got, ok)
	}
}

func Test17_1Holds(t *testing.T) {
	s := blob.New(4)
	id, _ := s.Add([]byte("abcd"))
	for i := range 10_000 {
		if s.Holds(id) != i+1 || !s.Hold(id) {
			t.Fatal(i, s.Holds(id))
		}
	}
	for i := 10_001; i > 0; i-- {
		if got, ok := s.Get(id); !ok || string(got) != "abcd" || s.Holds(id) != i || s.Used() != 4 {
			t.Fatal(i, got, ok, s.Holds(id))
		}
		if !s.Leave(id) {
			t.Fatal(i)
		}
	}
	if got, ok := s.Get(id); ok || got != nil || s.Holds(id) != 0 || s.Used() != 0 || s.Hold(id) || s.Leave(id) {
		t.Error(got, ok, s.Holds(id), s.Used())
	}
}

// Test17_1None asks for numbers that there are not, and for what false stands beside.
func Test17_1None(t *testing.T) {
	s := blob.New(10)
	s.Add([]byte("ab"))
	for _, id := range []int{math.MinInt, -1, 0, 2, 3, 1 << 32, 1<<32 + 1, math.MaxInt} {
		if got, ok := s.Get(id); ok || got != nil || s.Hold(id) || s.Leave(id) || s.Holds(id) != 0 {
			t.Error(id, got, ok)
		}
	}
	if s.Used() != 2 || s.Holds(1) != 1 {
		t.Error(s.Used(), s.Holds(1))
	}
}

func Test17_1Charge(t *testing.T) {
	held := 3
	for _, before := range []int{0, 1, 4, 6, 7} {
		for _, n := range []int{math.MinInt, math.MinInt + 1, -1 << 32, -8, -7, -6, -5, -4, -2, -1, 0, 1, 2, 3, 4, 6, 7, 8, 1 << 32, math.MaxInt - 10, math.MaxInt - 3, math.MaxInt} {
			s := blob.New(10)
			s.Add(make([]byte, held))
			if !s.Charge(before) {
				t.Fatal(before)
			}
			after, ok := before, n <= 0 || n <= 10-held-before
			if ok {
				after = max(0, before+n)
			}
			if got := s.Charge(n); got != ok || s.Used() != held+after {
				t.Error(before, n, got, s.Used())
			}
			if s.Charge(10 - held - after + 1) {
				t.Error(before, n, "more than the budget")
			}
			if !s.Charge(10-held-after) || s.Used() != 10 {
				t.Error(before, n, "less than the budget")
			}
			if !s.Leave(1) || s.Used() != 7 {
				t.Error(before, n, "what is held and what is charged are one")
			}
		}
	}
}

func Test17_1SeveralStores(t *testing.T) {
	a, b := blob.New(5), blob.New(5)
	a.Add([]byte("abc"))
	if b.Used() != 0 || b.Holds(1) != 0 {
		t.Error(b.Used(), b.Holds(1))
	}
	b.Charge(1)
	b.Add([]byte("de"))
	if got, _ := a.Get(1); string(got) != "abc" || a.Used() != 3 {
		t.Error(got, a.Used())
	}
	if got, _ := b.Get(1); string(got) != "de" || b.Used() != 3 {
		t.Error(got, b.Used())
	}
}

// Test17_1HandedIn looks whether Add keeps or changes what it is given, and its spare room.
func Test17_1HandedIn(t *testing.T) {
	s := blob.New(100)
	whole := []byte("abcdefgh")
	id, _ := s.Add(whole[:4])
	other, _ := s.Add(whole[4:])
	if string(whole) != "abcdefgh" {
		t.Error(string(whole))
	}
	for i := range whole {
		whole[i] = 'z'
	}
	if got, _ := s.Get(id); string(got) != "abcd" {
		t.Error(string(got))
	}
	if got, _ := s.Get(other); string(got) != "efgh" {
		t.Error(string(got))
	}
}

// Test17_1Answered overwrites what Get tells, and its spare room.
func Test17_1Answered(t *testing.T) {
	s := blob.New(100)
	for n := range 20 {
		want := make([]byte, n)
		for i := range want {
			want[i] = byte(n + i)
		}
		id, _ := s.Add(want)
		first, _ := s.Get(id)
		second, _ := s.Get(id)
		for i := range first[:cap(first)] {
			first[:cap(first)][i] = 0xff
		}
		third, _ := s.Get(id)
		if !bytes.Equal(second, want) || !bytes.Equal(third, want) {
			t.Error(n, second, third)
		}
		s.Leave(id)
		if !bytes.Equal(second, want) {
			t.Error(n, second)
		}
	}
}

// Test17_2Bounds holds that no more is kept than may be, by bytes that are counted as Get tells them.
func Test17_2Bounds(t *testing.T) {
	m := mixer(2)
	for range 60 {
		budget := m.below(200)
		s, charged, last := blob.New(budget), 0, 0
		for range 200 {
			switch m.below(4) {
			case 0:
				if id, ok := s.Add(make([]byte, m.below(60))); ok {
					last = id
				}
			case 1:
				s.Leave(m.below(last + 2))
			case 2:
				s.Hold(m.below(last + 2))
			case 3:
				if n := m.below(60) - 30; s.Charge(n) {
					charged = max(charged+n, 0)
				}
			}
			sum := charged
			for id := range last + 1 {
				b, _ := s.Get(id)
				sum += len(b)
			}
			if sum > budget || sum != s.Used() {
				t.Fatal(budget, sum, s.Used())
			}
		}
	}
}

func Test17_2GreatestBudget(t *testing.T) {
	s := blob.New(math.MaxInt)
	if !s.Charge(1<<30-4) || s.Charge(5) || s.Charge(math.MaxInt) || s.Charge(math.MaxInt-1<<30) {
		t.Error(s.Used())
	}
	if id, ok := s.Add([]byte("abcde")); id != 0 || ok {
		t.Error(id, ok)
	}
	if id, ok := s.Add([]byte("abcd")); id != 1 || !ok || s.Used() != 1<<30 {
		t.Error(id, ok, s.Used())
	}
	if s.Charge(1) || !s.Charge(-1) || !s.Charge(1) || s.Charge(1) {
		t.Error(s.Used())
	}
}

func Test17_3NoPanic(t *testing.T) {
	numbers := []int{math.MinInt, math.MinInt + 1, -1 << 31, -2, -1, 0, 1, 2, 3, 1 << 30, 1 << 31, math.MaxInt - 1, math.MaxInt}
	for _, budget := range numbers {
		s := blob.New(budget)
		for _, n := range numbers {
			s.Charge(n)
			s.Add(nil)
			s.Add([]byte{})
			s.Add(make([]byte, 1000))
			s.Get(n)
			s.Hold(n)
			s.Leave(n)
			s.Leave(n)
			s.Leave(n)
			s.Holds(n)
			if used := s.Used(); used < 0 || used > 1<<30 {
				t.Error(budget, n, used)
			}
		}
	}
}
