package cach_test

import (
	"fmt"
	"math"
	"slices"
	"strings"
	"testing"

	"ephemeris/api"
	"ephemeris/cach"
	"ephemeris/clok"
)

// key is the key of a letter.
func key(letter byte) api.Key {
	n := int(letter) - 'a'
	return api.Key{Series: n % 3, Life: n / 2 % 3, Blob: n}
}

// row is a row of n samples that no other number begins.
func row(begin, n int) []api.Sample {
	var l []api.Sample
	for i := range n {
		l = append(l, api.Sample{T: int64(begin + i), V: uint64(begin)<<8 + uint64(i)})
	}
	return l
}

// The world beside which the package is held: what was put last under each key is never forgotten, and it is there as long as the clock says so.

type world struct {
	clock api.Clock
	last  []put
}

type put struct {
	k api.Key
	l []api.Sample
}

func newWorld(most int) *world {
	return &world{clock: clok.New(most)}
}

// page tells k's page in a clock; of none one without a kind.
func page(c api.Clock, k api.Key) api.Page {
	for _, p := range c.Pages {
		if p.Key == k {
			return p
		}
	}
	return api.Page{}
}

func resident(c api.Clock, k api.Key) bool {
	p := page(c, k)
	return p.Kind == api.PHot || p.Kind == api.PCold
}

func (w *world) samples(k api.Key) []api.Sample {
	if !resident(w.clock, k) {
		return nil
	}
	for i := len(w.last) - 1; i >= 0; i-- {
		if w.last[i].k == k {
			return w.last[i].l
		}
	}
	panic("resident, but never put")
}

func (w *world) frames() int {
	n := 0
	for _, p := range w.clock.Pages {
		if p.Kind != api.PTest {
			n++
		}
	}
	return n
}

// call is a call, but of those that only look.
type call struct {
	name string
	k    api.Key
	l    []api.Sample
}

func (d call) String() string {
	return fmt.Sprintf("%s(%v)", d.name, d.k)
}

// inWorld tells what the call is to answer.
func (d call) inWorld(w *world) ([]api.Sample, bool) {
	var ok bool
	pins := page(w.clock, d.k).Pins
	switch d.name {
	case "Get":
		w.clock, ok = clok.Touch(w.clock, d.k)
		return w.samples(d.k), ok
	case "Put":
		if w.clock, _, ok = clok.Admit(w.clock, d.k); ok {
			w.last = append(w.last, put{d.k, slices.Clone(d.l)})
		}
	case "Pin":
		w.clock, ok = clok.Pin(w.clock, d.k, 1)
	case "Unpin":
		if pins > 0 {
			w.clock, ok = clok.Pin(w.clock, d.k, -1)
		}
	case "Drop":
		if pins == 0 {
			w.clock, ok = clok.Drop(w.clock, d.k)
		}
	default:
		panic(d.name)
	}
	return nil, ok
}

func (d call) do(c *cach.Cache) ([]api.Sample, bool) {
	switch d.name {
	case "Get":
		return c.Get(d.k)
	case "Put":
		return nil, c.Put(d.k, d.l)
	case "Pin":
		return nil, c.Pin(d.k)
	case "Unpin":
		return nil, c.Unpin(d.k)
	}
	return nil, c.Drop(d.k)
}

// both does the call in a cache and in a world; it tells where they are unlike, nothing where they are not.
func (d call) both(c *cach.Cache, w *world) string {
	want, wantOk := d.inWorld(w)
	got, ok := d.do(c)
	if ok != wantOk || !slices.Equal(got, want) {
		return fmt.Sprintf("%v: %v %v, want %v %v", d, got, ok, want, wantOk)
	}
	if !clok.Same(c.Clock(), w.clock) {
		return fmt.Sprintf("%v: clock %v, want %v", d, c.Clock(), w.clock)
	}
	if c.Frames() != w.frames() {
		return fmt.Sprintf("%v: %d frames, want %d", d, c.Frames(), w.frames())
	}
	return ""
}

// calls are those of few keys; the rows that they put begin with n.
func calls(keys string, n int) []call {
	var l []call
	for i := range len(keys) {
		for _, name := range []string{"Get", "Put", "Pin", "Unpin", "Drop"} {
			l = append(l, call{name, key(keys[i]), row(n+i, n%3)})
		}
	}
	return l
}

// mixer makes numbers that look like any, the same ones in each run.
type mixer uint64

func (m *mixer) next() uint64 {
	*m += 0x9e3779b97f4a7c15
	z := uint64(*m)
	z = (z ^ z>>30) * 0xbf58476d1ce4e5b9
	z = (z ^ z>>27) * 0x94d049bb133111eb
	return z ^ z>>31
}

// below tells a number of 0 to n-1.
func (m *mixer) below(n int) int {
	return int(m.next() % uint64(n))
}

// call tells any call of few keys; more of them get and put.
func (m *mixer) call(few int) call {
	names := []string{"Get", "Get", "Get", "Put", "Put", "Put", "Pin", "Unpin", "Unpin", "Drop"}
	return call{names[m.below(len(names))], key(byte('a' + m.below(few))), row(m.below(1000), m.below(4))}
}

// number tells any number, mostly a small one.
func (m *mixer) number() int {
	if m.below(3) > 0 {
		return m.below(4) - 1
	}
	return []int{math.MinInt, math.MaxInt, 1000, 1001, int(m.next())}[m.below(5)]
}

// script does calls, each written as name, key and what is to come of it: "p" puts, "g" gets, "+" and "-" pin and unpin, "d" drops; "pa:3" puts 3 samples, "ga:3" gets those, "!" behind a call means false.
func script(t *testing.T, c *cach.Cache, text string) {
	t.Helper()
	for at, x := range strings.Fields(text) {
		k, n, want := key(x[1]), 0, !strings.HasSuffix(x, "!")
		if len(x) > 3 && x[2] == ':' {
			n = int(x[3] - '0')
		}
		name := map[byte]string{'p': "Put", 'g': "Get", '+': "Pin", '-': "Unpin", 'd': "Drop"}[x[0]]
		l, ok := call{name, k, row(int(x[1])*10+n, n)}.do(c)
		if ok != want {
			t.Fatalf("%s: call %d, %s, answers %v", text, at, x, ok)
		}
		if name == "Get" && !slices.Equal(l, row(int(x[1])*10+n, n)) {
			t.Fatalf("%s: call %d, %s, answers %v", text, at, x, l)
		}
	}
}

// pages writes the pages of a cache in order of their letters (where they stand in the ring is the clock's own): hot h, cold c, in their test x, behind that r and t for Ref and Trial, and a number for Pins.
func pages(c *cach.Cache) string {
	var l []string
	for _, p := range c.Clock().Pages {
		s := string(rune('a'+p.Key.Blob)) + ":" + string(" hcx"[p.Kind])
		if p.Ref {
			s += "r"
		}
		if p.Trial {
			s += "t"
		}
		if p.Pins > 0 {
			s += fmt.Sprint(p.Pins)
		}
		l = append(l, s)
	}
	slices.Sort(l)
	return strings.Join(l, " ")
}

func Test16_1New(t *testing.T) {
	c := cach.New(3)
	script(t, c, "ga! +a! -a! da! ga!")
	if c.Frames() != 0 || !clok.Same(c.Clock(), clok.New(3)) {
		t.Error(c.Frames(), c.Clock())
	}
}

func Test16_1Most(t *testing.T) {
	for _, most := range []int{math.MinInt, -1, 0, 1, 2, 3, 20, 999, 1000, 1001, math.MaxInt} {
		c, want := cach.New(most), clok.New(most)
		if !clok.Same(c.Clock(), want) {
			t.Error(most, c.Clock())
		}
		for i := range 1002 {
			if !c.Put(api.Key{Blob: i}, nil) {
				t.Fatal(most, i)
			}
			if c.Frames() != min(i+1, want.Most) {
				t.Fatal(most, i, c.Frames())
			}
		}
	}
}

func Test16_1ByHand(t *testing.T) {
	for _, x := range []struct {
		most               int
		text, want, behind string // calls, the pages, and calls behind that
	}{
		{2, "pa:1", "a:ct", "ga:1"},
		{2, "pa:1 ga:1", "a:crt", ""},
		{2, "pa:1 pa:2", "a:crt", "ga:2"},
		{2, "pa:2 pa", "a:crt", "ga"},
		{2, "pa", "a:ct", "ga"},
		{2, "pa:1 pb:2", "a:ct b:ct", "gb:2 ga:1"},
		// What is put out has no samples any more, and those that stay have theirs.
		{2, "pa:1 pb:2 pc:3", "a:xt b:ct c:ct", "ga! gb:2 gc:3"},
		{2, "pa:1 pb:2 ga:1 pd:3", "a:h b:xt d:ct", "gb! ga:1 gd:3"},
		{1, "pa:1 pb:2", "a:xt b:ct", "ga! gb:2"},
		// What comes again in its test is hot, with what is put now.
		{3, "pa:1 pb:2 pc:3 pd:4", "a:xt b:ct c:ct d:ct", "ga! gb:2 gc:3 gd:4"},
		{3, "pa:1 pb:2 pc:3 pd:4 pa:5", "a:h b:xt c:ct d:ct", "ga:5 gb! gc:3 gd:4"},
		// Pins.
		{2, "pa:1 +a +a", "a:ct2", "ga:1"},
		{2, "pa:1 +a +a -a", "a:ct1", "-a -a!"},
		{2, "pa:1 -a!", "a:ct", ""},
		{2, "pa:1 +a -a -a!", "a:ct", ""},
		{2, "pa:1 +a pb:2 pc:3", "a:ct1 b:xt c:ct", "ga:1 gb! gc:3"},
		{2, "pa:1 +a pb:2 +b pc:3!", "a:ct1 b:ct1", "gc! ga:1 gb:2"},
		{2, "pa:1 +a pb:2 +b pb:4", "a:ct1 b:crt1", "gb:4 ga:1"},
		{2, "pa:1 +a pb:2 +b pc:3! -b pc:3", "a:ct1 b:xt c:ct", "gb! gc:3"},
		{1, "pa:1 +a pb:2! +b! -b! db! ga:1", "a:crt1", ""},
		{2, "pa:1 pb:2 pc:3 +a! -a! ga!", "a:xt b:ct c:ct", ""},
		// Those that go.
		{2, "pa:1 da", "", "ga! da! +a! -a!"},
		{2, "pa:1 +a da!", "a:ct1", "ga:1 -a da ga!"},
		{2, "pa:1 +a +a -a da! -a da", "", "ga!"},
		{2, "pa:1 pb:2 pc:3 da", "b:ct c:ct", "ga! gb:2 gc:3 da!"},
		{2, "pa:1 pb:2 pc:3 da pa:4", "a:ct b:xt c:ct", "gb! gc:3 ga:4"},
		{2, "pa:1 pb:2 db pc:3", "a:ct c:ct", "ga:1 gb! gc:3"},
		{2, "pa:1 da pa", "a:ct", "ga"},
	} {
		c := cach.New(x.most)
		script(t, c, x.text)
		if got := pages(c); got != x.want {
			t.Errorf("%d %s: %s, want %s", x.most, x.text, got, x.want)
		}
		if n := len(strings.Fields(x.want)) - strings.Count(x.want, ":x"); c.Frames() != n {
			t.Errorf("%d %s: %d frames, want %d", x.most, x.text, c.Frames(), n)
		}
		script(t, c, x.behind)
	}
}

func Test16_1FewCallsAfterEachOther(t *testing.T) {
	for most := 1; most <= 3; most++ {
		var fewMore func(row []call)
		fewMore = func(row []call) {
			c, w := cach.New(most), newWorld(most)
			for i, d := range row {
				if bad := d.both(c, w); bad != "" {
					t.Fatal(most, row[:i+1], bad)
				}
			}
			if len(row) == 4 {
				return
			}
			for _, d := range calls("abc", 10*len(row)) {
				fewMore(append(row[:len(row):len(row)], d))
			}
		}
		fewMore(nil)
	}
}

// Each call at each of the clocks that few pages come to, by the first row of calls that came to it.
func Test16_1EachCallAtEachClock(t *testing.T) {
	for most := 1; most <= 3; most++ {
		rows := [][]call{nil}
		seen := map[string]bool{}
		for at := 0; at < len(rows) && len(rows) < 6000; at++ {
			for _, d := range calls("abcd", 10*len(rows[at])) {
				c, w := cach.New(most), newWorld(most)
				for _, x := range rows[at] {
					x.do(c)
					x.inWorld(w)
				}
				if bad := d.both(c, w); bad != "" {
					t.Fatal(most, rows[at], bad)
				}
				if s := fmt.Sprint(w.clock); !seen[s] && page(w.clock, d.k).Pins < 3 {
					seen[s] = true
					rows = append(rows, append(slices.Clone(rows[at]), d))
				}
			}
		}
	}
}

func Test16_1LongRows(t *testing.T) {
	m := mixer(1)
	for round := range 300 {
		most := 1 + m.below(8)
		if round%20 == 0 {
			most = 100
		}
		c, w, few := cach.New(most), newWorld(most), 2+m.below(3*most)
		for range 300 {
			if bad := m.call(few).both(c, w); bad != "" {
				t.Fatal(round, most, few, bad)
			}
		}
		for i := range few {
			if bad := (call{"Get", key(byte('a' + i)), nil}).both(c, w); bad != "" {
				t.Fatal(round, most, few, bad)
			}
		}
	}
}

// Samples are found by all of a key.
func Test16_1Keys(t *testing.T) {
	few := []int{0, 1, -1, 256, 1 << 32, math.MinInt, math.MaxInt}
	var keys []api.Key
	for _, a := range few {
		for _, b := range few {
			for _, d := range few {
				keys = append(keys, api.Key{Series: a, Life: b, Blob: d})
			}
		}
	}
	c := cach.New(1000)
	for i, k := range keys {
		if _, ok := c.Get(k); ok {
			t.Fatal(k)
		}
		if !c.Put(k, row(i, 2)) || c.Frames() != i+1 {
			t.Fatal(k, c.Frames())
		}
	}
	for i, k := range keys {
		if l, ok := c.Get(k); !ok || !slices.Equal(l, row(i, 2)) {
			t.Fatal(k, l, ok)
		}
	}
	for i, k := range keys {
		if !c.Drop(k) || c.Frames() != len(keys)-i-1 {
			t.Fatal(k, c.Frames())
		}
		if _, ok := c.Get(k); ok {
			t.Fatal(k)
		}
	}
}

func Test16_1Rows(t *testing.T) {
	c := cach.New(2)
	for _, l := range [][]api.Sample{
		nil,
		{},
		{{T: 0, V: 0}},
		{{T: math.MaxInt64, V: math.MaxUint64}, {T: math.MinInt64, V: 1}}, // no row that rises, but what is put is what is told
		{{T: 5, V: 5}, {T: 5, V: 5}},
		row(7, 65535),
		row(7, 65536),
	} {
		for _, k := range []api.Key{key('a'), key('b')} {
			if !c.Put(k, l) {
				t.Fatal(k, len(l))
			}
			for range 2 {
				if got, ok := c.Get(k); !ok || !slices.Equal(got, l) {
					t.Fatal(k, len(l), len(got), ok)
				}
			}
		}
	}
}

// What is put anew is told, and not what was there, whichever of the two is longer.
func Test16_1PutAnew(t *testing.T) {
	c := cach.New(1)
	for i, n := range []int{3, 1, 0, 2, 2, 5, 0} {
		c.Put(key('a'), row(10*i, n))
		if l, ok := c.Get(key('a')); !ok || !slices.Equal(l, row(10*i, n)) || c.Frames() != 1 {
			t.Error(i, l, ok, c.Frames())
		}
		if i == 3 {
			c.Pin(key('a'))
		}
	}
	if p := page(c.Clock(), key('a')); p.Pins != 1 {
		t.Error(p)
	}
}

// Looking changes nothing, and is no use of a page.
func Test16_1Looking(t *testing.T) {
	c := cach.New(2)
	script(t, c, "pa:1 pb:2 pc:3")
	want := c.Clock()
	for range 3 {
		if c.Frames() != 2 || !clok.Same(c.Clock(), want) {
			t.Fatal(c.Frames(), c.Clock())
		}
	}
}

func Test16_1SeveralCaches(t *testing.T) {
	m := mixer(2)
	var caches []*cach.Cache
	var worlds []*world
	for most := range 5 {
		caches, worlds = append(caches, cach.New(most)), append(worlds, newWorld(most))
	}
	for range 3000 {
		i := m.below(len(caches))
		if bad := m.call(6).both(caches[i], worlds[i]); bad != "" {
			t.Fatal(i, bad)
		}
	}
}

// spare is the room behind a list.
func spare[T any](l []T) []T {
	return l[len(l):cap(l)]
}

func Test16_1HandedIn(t *testing.T) {
	c := cach.New(2)
	for _, text := range []string{"", "pa:1 ", "pa:1 pb:2 pc:3 ", "pa:1 ga:1 pb:2 pc:3 ", "pb:2 +b pc:3 +c "} {
		script(t, c, text)
		room := row(1, 9)
		ok := c.Put(key('a'), room[2:5:7])
		if !slices.Equal(room, row(1, 9)) {
			t.Error(text, "put changes what it is given", room)
		}
		for i := range room {
			room[i] = api.Sample{T: 99, V: 99}
		}
		if l, there := c.Get(key('a')); there != ok || ok && !slices.Equal(l, row(1, 9)[2:5]) {
			t.Error(text, "put keeps what it is given", l)
		}
	}
}

func Test16_1Answered(t *testing.T) {
	c := cach.New(3)
	script(t, c, "pa:3 pb:2 pc:1 +b ga:3 pd:4 pe")
	want := c.Clock()
	for _, k := range "abcde" {
		first, ok := c.Get(key(byte(k)))
		second, _ := c.Get(key(byte(k)))
		kept := slices.Clone(second)
		for i := range first {
			first[i].V = 99
		}
		for i := range spare(first) {
			spare(first)[i].V = 98
		}
		if third, there := c.Get(key(byte(k))); there != ok || !slices.Equal(second, kept) || !slices.Equal(third, kept) {
			t.Error(string(k), "get lends its samples", second, third, kept)
		}
		if ok {
			want, _ = clok.Touch(want, key(byte(k)))
		}
	}
	x, y := c.Clock(), c.Clock()
	for _, p := range [][]api.Page{x.Pages, x.Pages[:cap(x.Pages)]} {
		for i := range p {
			p[i] = api.Page{Kind: api.PHot, Pins: 50}
		}
	}
	if !clok.Same(y, want) || !clok.Same(c.Clock(), want) {
		t.Error("clock lends its pages", y, c.Clock(), want)
	}
	kept := c.Clock()
	script(t, c, "pf:1 +f -b")
	if !clok.Same(kept, want) {
		t.Error("a clock that was told changes", kept, want)
	}
}

// A list that was told stays, whatever becomes of its page.
func Test16_1AnsweredStays(t *testing.T) {
	c := cach.New(1)
	script(t, c, "pa:3")
	l, _ := c.Get(key('a'))
	script(t, c, "pa:2 pb:3 pa:4 da pa:1")
	if !slices.Equal(l, row('a'*10+3, 3)) {
		t.Error(l)
	}
}

// No more than may be, and who has pins stays, as those who read count their pins.
func Test16_2Bounds(t *testing.T) {
	m := mixer(3)
	for _, most := range []int{1, 2, 5, 60} {
		c, few := cach.New(most), 4*most
		pins := map[api.Key]int{}
		held := map[api.Key][]api.Sample{} // what was put of those that have pins
		for range 4000 {
			d := m.call(few)
			_, ok := d.do(c)
			switch {
			case ok && d.name == "Pin":
				pins[d.k]++
			case ok && d.name == "Unpin":
				pins[d.k]--
			case d.name == "Unpin" && pins[d.k] > 0, d.name == "Drop" && ok && pins[d.k] > 0:
				t.Fatal(most, d, ok, "has pins", pins[d.k])
			}
			clock := c.Clock()
			if c.Frames() > most || len(clock.Pages) > 2*most {
				t.Fatal(most, d, c.Frames(), len(clock.Pages))
			}
			n := 0
			for i := range few {
				k := key(byte('a' + i))
				p := page(clock, k)
				if p.Pins != pins[k] || p.Pins > 0 && !resident(clock, k) {
					t.Fatal(most, d, p, "has pins", pins[k])
				}
				if resident(clock, k) {
					n++
				}
			}
			if n != c.Frames() {
				t.Fatal(most, d, n, "are resident of", c.Frames())
			}
			if ok && d.name == "Put" {
				held[d.k] = d.l
			}
			if d.name != "Get" && m.below(5) == 0 {
				for k, n := range pins {
					if l, there := c.Get(k); n > 0 && (!there || !slices.Equal(l, held[k])) {
						t.Fatal(most, d, k, "is read, but put out", l)
					}
				}
			}
		}
	}
}

// Whoever has a pin is not put out by any that come, and gives room when it has none.
func Test16_2AllPins(t *testing.T) {
	for _, most := range []int{1, 2, 3, 40, 1000} {
		c := cach.New(most)
		for i := range most {
			k := api.Key{Blob: i}
			if !c.Put(k, row(i, 2)) || !c.Pin(k) {
				t.Fatal(most, i)
			}
		}
		want := c.Clock()
		for i := range 5 {
			if c.Put(api.Key{Blob: most + i}, row(9, 9)) || !clok.Same(c.Clock(), want) || c.Frames() != most {
				t.Fatal(most, i, c.Frames())
			}
		}
		free := api.Key{Blob: most / 2}
		if !c.Unpin(free) || !c.Put(api.Key{Blob: most}, nil) || c.Frames() != most {
			t.Fatal(most, c.Frames())
		}
		for i := range most {
			k := api.Key{Blob: i}
			if l, ok := c.Get(k); ok != (k != free) || ok && !slices.Equal(l, row(i, 2)) {
				t.Fatal(most, i, l, ok)
			}
		}
	}
}

func Test16_3NoPanic(t *testing.T) {
	m := mixer(4)
	for range 300 {
		most := m.number()
		c, w := cach.New(most), newWorld(most)
		for range 60 {
			d := m.call(5)
			d.k = api.Key{Series: m.number(), Life: m.number(), Blob: m.number()}
			if bad := d.both(c, w); bad != "" {
				t.Fatal(most, bad)
			}
		}
	}
}
