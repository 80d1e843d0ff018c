package clok_test

import (
	"fmt"
	"math"
	"slices"
	"strconv"
	"strings"
	"testing"

	"ephemeris/api"
	"ephemeris/clok"
)

// Clocks are written as texts: "4 2 0,1,2 a:h b:crt c:x d:c2" has Most 4, Target 2, the hands Hot, Cold and Test at 0, 1 and 2, and four pages: h, c and x (hot, cold, in its test) are their kinds, r and t behind that Ref and Trial, a number the Pins.

// key is the key of a letter.
func key(letter byte) api.Key {
	n := int(letter) - 'a'
	return api.Key{Series: n % 3, Life: n / 2 % 3, Blob: n}
}

func keys(letters string) []api.Key {
	var l []api.Key
	for i := range len(letters) {
		l = append(l, key(letters[i]))
	}
	return l
}

var kinds = map[byte]int{'h': api.PHot, 'c': api.PCold, 'x': api.PTest}

func page(text string) api.Page {
	p := api.Page{Key: key(text[0]), Kind: kinds[text[2]]}
	for i, x := range text[3:] {
		switch x {
		case 'r':
			p.Ref = true
		case 't':
			p.Trial = true
		default:
			p.Pins, _ = strconv.Atoi(text[3+i:])
			return p
		}
	}
	return p
}

func clock(text string) api.Clock {
	f := strings.Fields(text)
	n := make([]int, 5)
	for i, x := range append(f[:2:2], strings.Split(f[2], ",")...) {
		n[i], _ = strconv.Atoi(x)
	}
	c := api.Clock{Most: n[0], Target: n[1], Hot: n[2], Cold: n[3], Test: n[4]}
	for _, x := range f[3:] {
		c.Pages = append(c.Pages, page(x))
	}
	return c
}

// show is that text of a clock, its keys in full; pages nil and none are told alike.
func show(c api.Clock) string {
	b := []byte(fmt.Sprintf("%d %d %d,%d,%d", c.Most, c.Target, c.Hot, c.Cold, c.Test))
	for _, p := range c.Pages {
		for _, n := range []int{p.Key.Series, p.Key.Life, p.Key.Blob, p.Kind, p.Pins} {
			b = strconv.AppendInt(append(b, ' '), int64(n), 10)
		}
		b = strconv.AppendBool(append(b, ' '), p.Ref)
		b = strconv.AppendBool(append(b, ' '), p.Trial)
	}
	return string(b)
}

// brief is show of a clock, and but the beginning of that of a long one.
func brief(c api.Clock) string {
	if s := show(c); len(s) < 2000 {
		return s
	}
	return show(c)[:2000] + ".."
}

// clone is c in new memory.
func clone(c api.Clock) api.Clock {
	c.Pages = slices.Clone(c.Pages)
	return c
}

// The world beside which the package is held: hands point at pages, and not at places, so nothing is to be done of a hand unless its own page goes.

type node struct {
	api.Page
}

type world struct {
	most, target    int
	ring            []*node
	hot, cold, test *node
	out             []api.Key
}

func worldOf(c api.Clock) *world {
	w := &world{most: c.Most, target: c.Target}
	for _, p := range c.Pages {
		w.ring = append(w.ring, &node{p})
	}
	if len(w.ring) > 0 {
		w.hot, w.cold, w.test = w.ring[c.Hot], w.ring[c.Cold], w.ring[c.Test]
	}
	return w
}

func (w *world) clock() api.Clock {
	c := api.Clock{Most: w.most, Target: w.target}
	for _, n := range w.ring {
		c.Pages = append(c.Pages, n.Page)
	}
	if len(w.ring) > 0 {
		c.Hot, c.Cold, c.Test = slices.Index(w.ring, w.hot), slices.Index(w.ring, w.cold), slices.Index(w.ring, w.test)
	}
	return c
}

func (w *world) find(k api.Key) *node {
	for _, n := range w.ring {
		if n.Key == k {
			return n
		}
	}
	return nil
}

func (w *world) resident(k api.Key) *node {
	if n := w.find(k); n != nil && n.Kind != api.PTest {
		return n
	}
	return nil
}

func (w *world) behind(n *node) *node {
	return w.ring[(slices.Index(w.ring, n)+1)%len(w.ring)]
}

func (w *world) remove(n *node) {
	for _, hand := range []**node{&w.hot, &w.cold, &w.test} {
		if *hand == n {
			*hand = w.behind(n)
		}
	}
	w.ring = slices.DeleteFunc(w.ring, func(x *node) bool { return x == n })
}

func (w *world) insert(p api.Page) {
	n := &node{p}
	if len(w.ring) == 0 {
		w.ring, w.hot, w.cold, w.test = []*node{n}, n, n, n
		return
	}
	w.ring = slices.Insert(w.ring, slices.Index(w.ring, w.hot), n)
}

func (w *world) less() {
	if w.target > 1 {
		w.target--
	}
}

func (w *world) more() {
	if w.target < w.most {
		w.target++
	}
}

func (w *world) count(kind int) int {
	n := 0
	for _, x := range w.ring {
		if x.Kind == kind {
			n++
		}
	}
	return n
}

func (w *world) coldWithoutPins() bool {
	return slices.ContainsFunc(w.ring, func(n *node) bool { return n.Kind == api.PCold && n.Pins == 0 })
}

func (w *world) allHavePins() bool {
	return !slices.ContainsFunc(w.ring, func(n *node) bool { return n.Kind != api.PTest && n.Pins == 0 })
}

func (w *world) turnHot() {
	for w.count(api.PHot) > 0 {
		n := w.hot
		if n.Kind == api.PTest {
			w.remove(n)
			w.less()
			continue
		}
		w.hot = w.behind(n)
		if n.Kind == api.PCold {
			n.Trial = false
		} else if n.Ref {
			n.Ref = false
		} else {
			n.Page = api.Page{Key: n.Key, Kind: api.PCold, Pins: n.Pins}
			return
		}
	}
}

func (w *world) turnTest() {
	for w.count(api.PTest) > 0 {
		n := w.test
		if n.Kind == api.PTest {
			w.remove(n)
			w.less()
			return
		}
		w.test = w.behind(n)
		if n.Kind == api.PCold && n.Trial {
			n.Trial = false
			w.less()
		}
	}
}

func (w *world) coolToFit() {
	for w.count(api.PHot) > w.most-w.target {
		w.turnHot()
	}
}

func (w *world) turnCold() {
	for !w.allHavePins() {
		for !w.coldWithoutPins() {
			w.turnHot()
		}
		n := w.cold
		putOut := n.Kind == api.PCold && n.Pins == 0 && !n.Ref
		if putOut && !n.Trial {
			w.remove(n)
		} else {
			w.cold = w.behind(n)
		}
		switch {
		case putOut:
			n.Kind = api.PTest
			w.out = append(w.out, n.Key)
			for w.count(api.PTest) > w.most {
				w.turnTest()
			}
			return
		case n.Kind != api.PCold || n.Pins > 0:
		case n.Trial:
			n.Kind, n.Ref, n.Trial = api.PHot, false, false
			w.coolToFit()
		default:
			n.Ref, n.Trial = false, true
		}
	}
}

func (w *world) touch(k api.Key) bool {
	n := w.resident(k)
	if n != nil {
		n.Ref = true
	}
	return n != nil
}

func (w *world) pin(k api.Key, more int) bool {
	n := w.resident(k)
	if n != nil {
		n.Pins = max(0, n.Pins+more)
	}
	return n != nil
}

func (w *world) drop(k api.Key) bool {
	n := w.find(k)
	if n != nil {
		w.remove(n)
	}
	return n != nil
}

func (w *world) admit(k api.Key) bool {
	if w.touch(k) {
		return true
	}
	if w.count(api.PHot)+w.count(api.PCold) == w.most && w.allHavePins() {
		return false
	}
	p := api.Page{Key: k, Kind: api.PCold, Trial: true}
	if w.drop(k) {
		p = api.Page{Key: k, Kind: api.PHot}
		w.more()
	}
	for w.count(api.PHot)+w.count(api.PCold) == w.most {
		w.turnCold()
	}
	w.insert(p)
	w.coolToFit()
	return true
}

// mixer makes numbers that look like any, the same ones in each run.
type mixer uint64

func (m *mixer) next() uint64 {
	*m += 0x9e3779b97f4a7c15
	z := uint64(*m)
	z = (z ^ z>>30) * 0xbf58476d1ce4e5b9
	z = (z ^ z>>27) * 0x94d049bb133111eb
	return z ^ z>>31
}

// below tells a number of 0 to n-1.
func (m *mixer) below(n int) int {
	return int(m.next() % uint64(n))
}

func (m *mixer) yes() bool {
	return m.below(2) == 0
}

// key tells one of few keys.
func (m *mixer) key(few int) api.Key {
	return key(byte('a' + m.below(few)))
}

// likely tells a clock as it may be, which need not be one that calls come to.
func (m *mixer) likely(most int) api.Clock {
	c := api.Clock{Most: most, Target: 1 + m.below(most)}
	resident, tests := m.below(most+1), m.below(most+1)
	if m.yes() {
		resident = most
	}
	if m.yes() {
		tests = most
	}
	for i := range resident + tests {
		p := api.Page{Key: key(byte('a' + i)), Kind: 1 + m.below(2), Ref: m.yes(), Trial: m.yes(), Pins: max(0, m.below(5)-2)}
		switch {
		case i >= resident:
			p = api.Page{Key: p.Key, Kind: api.PTest, Trial: true}
		case p.Kind == api.PHot:
			p.Trial = false
		}
		c.Pages = slices.Insert(c.Pages, m.below(i+1), p)
	}
	if n := len(c.Pages); n > 0 {
		c.Hot, c.Cold, c.Test = m.below(n), m.below(n), m.below(n)
	}
	return c
}

// number tells any number, mostly a small one.
func (m *mixer) number(few int) int {
	switch m.below(8) {
	case 0:
		return -1
	case 1:
		return few
	case 2:
		return int(m.next())
	case 3:
		return []int{math.MinInt, math.MinInt + 1, math.MaxInt - 1, math.MaxInt}[m.below(4)]
	}
	return m.below(few)
}

// any tells a clock of whatever its fields may hold.
func (m *mixer) any() api.Clock {
	c := api.Clock{Most: m.number(6), Target: m.number(6), Hot: m.number(9), Cold: m.number(9), Test: m.number(9)}
	for range m.below(12) {
		c.Pages = append(c.Pages, api.Page{Key: m.key(9), Kind: m.number(5), Ref: m.yes(), Trial: m.yes(), Pins: m.number(3)})
	}
	return c
}

// call is a call that answers a clock.
type call struct {
	name string
	k    api.Key
	n    int
}

func (d call) do(c api.Clock) (api.Clock, []api.Key, bool) {
	var ok bool
	switch d.name {
	case "Touch":
		c, ok = clok.Touch(c, d.k)
	case "Pin":
		c, ok = clok.Pin(c, d.k, d.n)
	case "Drop":
		c, ok = clok.Drop(c, d.k)
	default:
		return clok.Admit(c, d.k)
	}
	return c, nil, ok
}

func (d call) inWorld(c api.Clock) (api.Clock, []api.Key, bool) {
	w, ok := worldOf(c), false
	switch d.name {
	case "Touch":
		ok = w.touch(d.k)
	case "Pin":
		ok = w.pin(d.k, d.n)
	case "Drop":
		ok = w.drop(d.k)
	default:
		ok = w.admit(d.k)
	}
	return w.clock(), w.out, ok
}

// calls are those of few keys.
func calls(few int) []call {
	var l []call
	for i := range few {
		k := key(byte('a' + i))
		l = append(l, call{"Touch", k, 0}, call{"Pin", k, 1}, call{"Pin", k, -1}, call{"Drop", k, 0}, call{"Admit", k, 0})
	}
	return l
}

// call tells one of few keys, mostly one by which pages come.
func (m *mixer) call(few int) call {
	d := call{"Admit", m.key(few), 0}
	switch x := m.below(20); {
	case x < 6:
		d.name = "Touch"
	case x < 8:
		d.name, d.n = "Pin", m.below(4)-1
	case x < 9:
		d.name, d.n = "Pin", -9
	case x < 10:
		d.name = "Drop"
	}
	return d
}

// check holds that d on c comes to this, and that c stays.
func check(t *testing.T, c api.Clock, d call, want api.Clock, out []api.Key, ok bool) api.Clock {
	t.Helper()
	was := clone(c)
	got, l, yes := d.do(c)
	if show(got) != show(want) || yes != ok || !slices.Equal(l, out) {
		t.Fatalf("%+v of %s\ncomes to %s, %v, %v\nnot to %s, %v, %v", d, brief(was), brief(got), l, yes, brief(want), out, ok)
	}
	if show(c) != show(was) {
		t.Fatalf("%+v turned %s to %s", d, brief(was), brief(c))
	}
	return got
}

// checkInWorld holds that d on c comes to what it comes to in the world.
func checkInWorld(t *testing.T, c api.Clock, d call) api.Clock {
	t.Helper()
	want, out, ok := d.inWorld(c)
	return check(t, c, d, want, out, ok)
}

// checkFalse holds that d on c is false, and the clock as it was.
func checkFalse(t *testing.T, c api.Clock, d call) {
	t.Helper()
	check(t, c, d, c, nil, false)
}

// checkAdmit holds that k comes to c so, as texts; out are the letters of those that were put out.
func checkAdmit(t *testing.T, c string, k byte, want, out string) {
	t.Helper()
	check(t, clock(c), call{"Admit", key(k), 0}, clock(want), keys(out), true)
}

func Test15_1New(t *testing.T) {
	for most, want := range map[int]int{math.MinInt: 1, -1 << 32: 1, -1: 1, 0: 1, 1: 1, 2: 2, 7: 7, 999: 999, 1000: 1000, 1001: 1000, 1<<32 + 3: 1000, math.MaxInt: 1000} {
		if c := clok.New(most); show(c) != show(api.Clock{Most: want, Target: 1}) {
			t.Errorf("New(%d) is %s", most, show(c))
		}
	}
}

// handsOf calls f for each three places of n; for three times 0, where n is 0.
func handsOf(n int, f func(hot, cold, test int)) {
	n = max(1, n)
	for i := range n * n * n {
		f(i%n, i/n%n, i/n/n)
	}
}

// ringOf is a clock of n cold pages, of which more may come.
func ringOf(n int) api.Clock {
	c := api.Clock{Most: 20, Target: 3}
	for i := range n {
		c.Pages = append(c.Pages, api.Page{Key: key(byte('a' + i)), Kind: api.PCold})
	}
	return c
}

func Test15_1APageThatGoes(t *testing.T) {
	for n := 1; n <= 6; n++ {
		handsOf(n, func(hot, cold, test int) {
			for at := range n {
				hand := func(was int) int {
					if was > at {
						return was - 1
					}
					if was == at && at == n-1 {
						return 0
					}
					return was
				}
				c := ringOf(n)
				c.Hot, c.Cold, c.Test = hot, cold, test
				want := clone(c)
				want.Pages = slices.Delete(want.Pages, at, at+1)
				want.Hot, want.Cold, want.Test = hand(hot), hand(cold), hand(test)
				check(t, c, call{"Drop", key(byte('a' + at)), 0}, want, nil, true)
			}
		})
	}
}

func Test15_1APageThatComes(t *testing.T) {
	for n := range 6 {
		handsOf(n, func(hot, cold, test int) {
			hand := func(was int) int {
				if n > 0 && was >= hot {
					return was + 1
				}
				return was
			}
			c := ringOf(n)
			c.Hot, c.Cold, c.Test = hot, cold, test
			want := clone(c)
			want.Pages = slices.Insert(want.Pages, hot, page("z:ct"))
			want.Hot, want.Cold, want.Test = hand(hot), hand(cold), hand(test)
			check(t, c, call{"Admit", key('z'), 0}, want, nil, true)
		})
	}
}

func Test15_1PagesThatComeStandBehindEachOther(t *testing.T) {
	c := clok.New(3)
	for i, want := range []string{"3 1 0,0,0 a:ct", "3 1 1,1,1 b:ct a:ct", "3 1 2,2,2 b:ct c:ct a:ct"} {
		c = check(t, c, call{"Admit", key(byte('a' + i)), 0}, clock(want), nil, true)
	}
}

func Test15_1TargetIsHeld(t *testing.T) {
	// one that comes again is one more
	checkAdmit(t, "4 1 1,1,1 a:xt b:ct", 'a', "4 2 1,1,1 a:h b:ct", "")
	checkAdmit(t, "4 2 1,1,1 a:xt b:ct", 'a', "4 3 1,1,1 a:h b:ct", "")
	checkAdmit(t, "4 3 1,1,1 a:xt b:ct", 'a', "4 4 1,1,1 a:c b:c", "")
	checkAdmit(t, "4 4 1,1,1 a:xt b:ct", 'a', "4 4 1,1,1 a:c b:c", "")
	checkAdmit(t, "1 1 0,0,0 a:xt", 'a', "1 1 0,0,0 a:c", "")
	// two that go by the hand Hot are two less
	checkAdmit(t, "4 4 0,0,0 a:xt b:xt c:h d:h e:h", 'z', "4 2 2,1,1 z:ct c:c d:h e:h", "")
	checkAdmit(t, "4 3 0,0,0 a:xt b:xt c:h d:h e:h", 'z', "4 1 2,1,1 z:ct c:c d:h e:h", "")
	checkAdmit(t, "4 2 0,0,0 a:xt b:xt c:h d:h e:h", 'z', "4 1 2,1,1 z:ct c:c d:h e:h", "")
	// so are a Trial and one that goes by the hand Test
	checkAdmit(t, "3 3 0,0,1 a:ct b:ct c:c1 v:xt w:xt x:xt", 'z', "3 1 1,2,4 z:ct a:xt b:c c:c1 w:xt x:xt", "a")
	checkAdmit(t, "3 2 0,0,1 a:ct b:ct c:c1 v:xt w:xt x:xt", 'z', "3 1 1,2,4 z:ct a:xt b:c c:c1 w:xt x:xt", "a")
	checkAdmit(t, "3 1 0,0,1 a:ct b:ct c:c1 v:xt w:xt x:xt", 'z', "3 1 1,2,4 z:ct a:xt b:c c:c1 w:xt x:xt", "a")
}

func Test15_2Find(t *testing.T) {
	c := clock("4 1 0,0,0 a:h b:cr c:xt d:c2 e:ct f:hr3")
	for i, k := range keys("abcdef") {
		if at := clok.Find(c, k); at != i {
			t.Errorf("Find %+v is %d", k, at)
		}
		for _, other := range []api.Key{{Series: k.Series + 1, Life: k.Life, Blob: k.Blob}, {Series: k.Series, Life: k.Life + 1, Blob: k.Blob}, {Series: k.Series, Life: k.Life, Blob: k.Blob - 9}, {Series: -k.Series - 1, Life: k.Life, Blob: k.Blob}} {
			if at := clok.Find(c, other); at != -1 {
				t.Errorf("Find %+v is %d", other, at)
			}
		}
	}
	for _, c := range []api.Clock{{}, clok.New(3), clok.New(1000)} {
		for _, k := range append(keys("ab"), api.Key{Series: math.MinInt, Life: math.MaxInt}) {
			if at := clok.Find(c, k); at != -1 {
				t.Errorf("Find %+v of no pages is %d", k, at)
			}
		}
	}
}

func Test15_2Touch(t *testing.T) {
	c := clock("5 2 3,1,2 a:h b:ct c:xt d:c2 e:hr3")
	for i, want := range []string{"a:hr", "b:crt", "", "d:cr2", "e:hr3"} {
		d := call{"Touch", key(byte('a' + i)), 0}
		if want == "" {
			checkFalse(t, c, d)
			continue
		}
		w := clone(c)
		w.Pages[i] = page(want)
		check(t, c, d, w, nil, true)
	}
	checkFalse(t, c, call{"Touch", key('f'), 0})
	checkFalse(t, clok.New(2), call{"Touch", key('a'), 0})
}

func Test15_2Pin(t *testing.T) {
	kinds := []string{"h", "hr", "c", "cr", "ct", "crt"}
	for _, was := range []int{0, 1, 2, 1000, math.MaxInt - 1, math.MaxInt} {
		for _, n := range []int{math.MinInt, math.MinInt + 1, -1001, -1000, -3, -2, -1, 0, 1, 2, 7, math.MaxInt - 2, math.MaxInt - 1, math.MaxInt} {
			// what an int can't hold is as many as it can
			sum := 0
			for _, x := range []int{was, n} {
				if x > 0 && sum > math.MaxInt-x {
					sum = math.MaxInt
				} else {
					sum = max(0, sum+x)
				}
			}
			for _, kind := range kinds {
				c := clock("3 2 1,0,2 b:xt a:" + kind + " c:c1")
				c.Pages[1].Pins = was
				w := clone(c)
				w.Pages[1].Pins = sum
				check(t, c, call{"Pin", key('a'), n}, w, nil, true)
				checkFalse(t, c, call{"Pin", key('b'), n})
				checkFalse(t, c, call{"Pin", key('d'), n})
			}
		}
	}
	checkFalse(t, clok.New(2), call{"Pin", key('a'), 1})
}

func Test15_2Drop(t *testing.T) {
	for _, kind := range []string{"h", "hr", "hr5", "c", "cr", "ct", "crt", "ct1", "xt"} {
		c := clock("3 2 1,2,0 b:xt a:" + kind + " c:c1")
		check(t, c, call{"Drop", key('a'), 0}, clock("3 2 1,1,0 b:xt c:c1"), nil, true)
		checkFalse(t, c, call{"Drop", key('d'), 0})
		check(t, clock("1 1 0,0,0 a:"+kind), call{"Drop", key('a'), 0}, clok.New(1), nil, true)
	}
	checkFalse(t, clok.New(2), call{"Drop", key('a'), 0})
}

func Test15_3TheHandHot(t *testing.T) {
	// so far fewer are resident than may be, so the hand Cold stays
	for _, x := range [][3]string{
		{"one is enough", "4 3 0,0,0 a:h b:h", "4 3 2,1,1 z:ct a:c b:h"},
		{"it goes on behind the last", "4 3 1,0,0 a:h b:h", "4 3 0,0,0 a:h z:ct b:c"},
		{"as long as there are more", "5 4 0,0,0 a:h b:h c:h", "5 4 3,1,1 z:ct a:c b:c c:h"},
		{"none may be", "4 4 0,0,0 a:h b:h", "4 4 0,1,1 z:ct a:c b:c"},
		{"so many may be", "4 2 0,0,0 a:h b:hr", "4 2 1,1,1 z:ct a:h b:hr"},
		{"Ref is looked over once", "4 3 0,0,0 a:hr b:h", "4 3 0,1,1 z:ct a:h b:c"},
		{"all have Ref", "4 3 0,0,0 a:hr b:hr", "4 3 2,1,1 z:c a:c b:h"},
		{"cold ones lose Trial, and nothing else", "6 5 0,0,0 a:ct b:crt c:cr2 d:hr e:h1", "6 5 0,1,1 z:ct a:c b:cr c:cr2 d:h e:c1"},
		{"pins are left", "4 4 0,0,0 a:h3", "4 4 0,1,1 z:ct a:c3"},
		{"Trial of a hot one is gone, too", "4 4 0,0,0 a:ht", "4 4 0,1,1 z:ct a:c"},
		{"those in their tests go", "6 5 0,2,1 a:xt b:xt c:h d:h", "6 3 2,1,1 z:ct c:c d:h"},
	} {
		t.Run(x[0], func(t *testing.T) { checkAdmit(t, x[1], 'z', x[2], "") })
	}
}

func Test15_3TheHandHotAndThoseInTheirTests(t *testing.T) {
	// the last of the ring goes, so the hand stands at the first; the other hands as said
	checkAdmit(t, "6 6 1,2,2 a:h b:h c:xt", 'z', "6 5 1,0,0 a:c z:ct b:c", "")
	// it stays behind one that went, and looks at what stands there then
	checkAdmit(t, "3 3 0,0,0 a:xt b:xt c:xt d:h", 'z', "3 1 0,1,1 z:ct d:c", "")
	// none goes that it does not come to
	checkAdmit(t, "3 3 0,2,1 a:h b:xt c:xt", 'z', "3 3 2,3,2 z:ct a:c b:xt c:xt", "")
}

func Test15_3TheHandCold(t *testing.T) {
	for _, x := range [][4]string{
		{"with Trial it is in its test", "2 1 0,0,0 a:ct b:ct", "2 1 1,2,1 z:ct a:xt b:ct", "a"},
		{"without it goes", "2 1 0,0,0 a:c b:ct", "2 1 1,1,1 z:ct b:ct", "a"},
		{"the last goes", "2 1 0,1,1 a:ct b:c", "2 1 1,1,1 z:ct a:ct", "b"},
		{"it goes on behind the last", "2 1 0,1,1 a:ct b:ct", "2 1 1,1,2 z:ct a:ct b:xt", "b"},
		{"Ref alone is Trial", "2 1 0,0,0 a:cr b:c", "2 1 1,1,1 z:ct a:ct", "b"},
		{"Ref alone, and round", "2 1 0,0,0 a:cr b:h", "2 1 1,2,1 z:ct a:xt b:h", "a"},
		{"Ref and Trial is hot", "2 1 0,0,0 a:crt b:c", "2 1 1,1,1 z:ct a:h", "b"},
		{"pins", "3 1 0,0,0 a:c1 b:crt2 c:ct", "3 1 1,1,1 z:ct a:c1 b:crt2 c:xt", "c"},
		{"hot ones stay", "3 1 0,0,0 a:h b:hr c:ct", "3 1 1,1,1 z:ct a:h b:hr c:xt", "c"},
		{"those in their tests stay", "2 1 0,0,0 x:xt a:h y:xt b:c", "2 1 1,1,1 z:ct x:xt a:h y:xt", "b"},
	} {
		t.Run(x[0], func(t *testing.T) { checkAdmit(t, x[1], 'z', x[2], x[3]) })
	}
}

func Test15_3TheHandColdMakesHot(t *testing.T) {
	// one more hot than may be: the hand Hot turns behind that, and finds the other one
	checkAdmit(t, "3 2 0,1,0 a:h b:crt c:c", 'z', "3 2 2,0,0 a:c z:ct b:h", "c")
	// it finds the one that just became hot
	checkAdmit(t, "3 2 1,1,0 a:h b:crt c:c", 'z', "3 2 1,1,1 z:ct a:h b:c", "c")
	// the hand Hot takes Trial of b on its way to c, so b is not hot, too
	checkAdmit(t, "3 2 1,0,0 a:crt b:crt c:h", 'z', "3 2 1,1,1 z:ct a:h b:ct", "c")
}

func Test15_3TheHandHotTurnsWhereNoneIsCold(t *testing.T) {
	// ahead of the first page
	checkAdmit(t, "2 1 0,0,0 a:h b:h1", 'z', "2 1 1,1,1 z:ct b:h1", "a")
	checkAdmit(t, "1 1 0,0,0 a:h", 'z', "1 1 0,0,0 z:ct", "a")
	// till one without pins is: c has pins, so d is cold, too
	checkAdmit(t, "3 1 1,0,0 a:c1 c:h1 d:h", 'z', "3 1 1,1,1 z:ct a:c1 c:c1", "d")
	// behind one that became hot, where that was the only one
	checkAdmit(t, "2 1 1,0,0 a:crt b:h1", 'z', "2 1 1,1,1 z:ct b:c1", "a")
	// it is not turned where there is one, anywhere
	checkAdmit(t, "3 1 0,0,0 a:h b:h c:c", 'z', "3 1 1,1,1 z:ct a:h b:h", "c")
}

func Test15_3TheHandTest(t *testing.T) {
	// as many may be in their tests as may be resident
	checkAdmit(t, "2 1 0,0,0 a:ct b:h x:xt", 'z', "2 1 1,2,1 z:ct a:xt b:h x:xt", "a")
	// one more: the first from the hand on goes
	checkAdmit(t, "2 2 0,0,3 a:ct b:c x:xt y:xt", 'z', "2 1 1,2,1 z:ct a:xt b:c x:xt", "a")
	checkAdmit(t, "2 2 0,0,2 a:ct b:c x:xt y:xt", 'z', "2 1 1,2,3 z:ct a:xt b:c y:xt", "a")
	// the one that was put out goes, and the hand Cold is one less
	checkAdmit(t, "2 2 0,0,0 a:ct b:c x:xt y:xt", 'z', "2 1 1,1,1 z:ct b:c x:xt y:xt", "a")
	// of each cold one that it comes to Trial is gone, and Target is one less
	checkAdmit(t, "4 4 3,0,1 a:ct b:ct c:crt1 d:c x:xt y:xt v:xt w:xt", 'z', "4 1 4,1,5 a:xt b:c c:cr1 z:ct d:c y:xt v:xt w:xt", "a")
	// of one that is hot it stays
	checkAdmit(t, "3 2 0,0,1 a:ct b:ht c:c1 v:xt w:xt x:xt", 'z', "3 1 1,2,4 z:ct a:xt b:ht c:c1 w:xt x:xt", "a")
	// it does not turn where one that is put out goes at once
	checkAdmit(t, "2 2 1,1,0 a:ct b:c x:xt y:xt", 'z', "2 2 2,2,0 a:ct z:ct x:xt y:xt", "b")
}

func Test15_4OneThatIsResidentIsTouched(t *testing.T) {
	for _, text := range []string{"3 1 1,2,0 a:h b:ct c:hr", "3 1 0,0,0 a:h1 b:c1 c:ct1", "4 4 1,2,0 a:h b:ct c:hr x:xt"} {
		c := clock(text)
		for i := range 3 {
			w := clone(c)
			w.Pages[i].Ref = true
			check(t, c, call{"Admit", key(byte('a' + i)), 0}, w, nil, true)
		}
	}
}

func Test15_4AllHavePins(t *testing.T) {
	for _, text := range []string{"1 1 0,0,0 a:ct1", "1 1 0,0,0 a:h9", "3 2 1,2,3 a:h1 b:c1 x:xt c:crt2", "2 1 2,2,2 a:cr1 b:hr1 x:xt y:xt"} {
		c := clock(text)
		for _, k := range keys("xyz") {
			checkFalse(t, c, call{"Admit", k, 0})
		}
		// one that has none is enough
		for _, p := range c.Pages {
			if p.Kind == api.PTest {
				continue
			}
			free, _ := clok.Pin(c, p.Key, -9)
			for _, k := range keys("xyz") {
				if got := checkInWorld(t, free, call{"Admit", k, 0}); clok.Find(got, k) < 0 {
					t.Errorf("%+v did not come to %s", k, show(free))
				}
			}
		}
	}
	// where fewer are resident than may be, all may have pins
	checkAdmit(t, "3 1 0,0,0 a:c1 b:c1", 'z', "3 1 1,1,1 z:ct a:c1 b:c1", "")
}

func Test15_4Again(t *testing.T) {
	// it comes at the place of the hand Hot, not where it was; Target is one more
	checkAdmit(t, "5 2 0,1,2 a:c b:ct x:xt c:c", 'x', "5 3 1,2,3 x:h a:c b:ct c:c", "")
	// that counts ahead of the hand Cold, which then has room for fewer hot ones
	checkAdmit(t, "3 1 3,0,3 a:crt b:c c:hr x:xt", 'x', "3 2 2,2,0 a:c x:c c:h", "b")
	// the hand Hot points at it: at what stands there then
	checkAdmit(t, "4 1 1,1,1 a:c x:xt b:c", 'x', "4 2 2,2,2 a:c x:h b:c", "")
	checkAdmit(t, "4 1 2,2,2 a:c b:c x:xt", 'x', "4 2 1,1,1 x:h a:c b:c", "")
	// it was all that there was
	checkAdmit(t, "4 1 0,0,0 x:xt", 'x', "4 2 0,0,0 x:h", "")
	checkAdmit(t, "1 1 0,0,0 x:xt", 'x', "1 1 0,0,0 x:c", "")
	// its own test is over, so one more may be in theirs
	checkAdmit(t, "3 1 0,0,3 a:ct b:c c:c x:xt y:xt v:xt", 'x', "3 2 1,2,4 x:h a:xt b:c c:c y:xt v:xt", "a")
	// too many are hot with it, so the hand Hot turns; it comes round to x itself
	checkAdmit(t, "1 1 0,0,0 a:ct x:xt", 'x', "1 1 0,0,0 x:c", "a")
}

func Test15_4AStory(t *testing.T) {
	c := clok.New(3)
	for _, x := range []struct {
		name      string
		letter    byte
		want, out string
	}{
		{"Admit", 'a', "3 1 0,0,0 a:ct", ""},
		{"Admit", 'b', "3 1 1,1,1 b:ct a:ct", ""},
		{"Touch", 'a', "3 1 1,1,1 b:ct a:crt", ""},
		{"Admit", 'c', "3 1 2,2,2 b:ct c:ct a:crt", ""},
		{"Admit", 'd', "3 1 3,1,3 b:xt c:ct d:ct a:h", "b"},
		{"Admit", 'b', "3 2 0,1,3 c:xt d:ct b:h a:c", "c"},
	} {
		c = check(t, c, call{x.name, key(x.letter), 0}, clock(x.want), keys(x.out), true)
	}
}

// twins are pairs of clocks that are unlike in one thing.
func twins() [][2]api.Clock {
	c := clock("3 2 1,0,2 a:h1 b:ct2 c:xt")
	var l [][2]api.Clock
	for _, turn := range []func(c *api.Clock){
		func(c *api.Clock) { c.Most = 4 },
		func(c *api.Clock) { c.Most = 3 - 1<<32 },
		func(c *api.Clock) { c.Target = 3 },
		func(c *api.Clock) { c.Target = -2 },
		func(c *api.Clock) { c.Hot = 2 },
		func(c *api.Clock) { c.Cold = 1 },
		func(c *api.Clock) { c.Test = 0 },
		func(c *api.Clock) { c.Hot, c.Cold = c.Cold, c.Hot },
		func(c *api.Clock) { c.Cold, c.Test = c.Test, c.Cold },
		func(c *api.Clock) { c.Pages = nil },
		func(c *api.Clock) { c.Pages = c.Pages[:2] },
		func(c *api.Clock) { c.Pages = c.Pages[1:] },
		func(c *api.Clock) { c.Pages = append(c.Pages, page("d:c")) },
		func(c *api.Clock) { c.Pages = append(c.Pages, api.Page{}) },
		func(c *api.Clock) { c.Pages[0], c.Pages[1] = c.Pages[1], c.Pages[0] },
		func(c *api.Clock) { slices.Reverse(c.Pages) },
	} {
		d := clone(c)
		turn(&d)
		l = append(l, [2]api.Clock{c, d})
	}
	for i := range c.Pages {
		for _, turn := range []func(p *api.Page){
			func(p *api.Page) { p.Key.Series++ },
			func(p *api.Page) { p.Key.Life-- },
			func(p *api.Page) { p.Key.Blob += 1 << 40 },
			func(p *api.Page) { p.Kind = 1 + p.Kind%3 },
			func(p *api.Page) { p.Ref = !p.Ref },
			func(p *api.Page) { p.Trial = !p.Trial },
			func(p *api.Page) { p.Pins++ },
			func(p *api.Page) { p.Pins = -p.Pins - 1 },
		} {
			d := clone(c)
			turn(&d.Pages[i])
			l = append(l, [2]api.Clock{c, d})
		}
	}
	return append(l, [2]api.Clock{{}, clok.New(1)}, [2]api.Clock{clok.New(1), clok.New(2)})
}

func Test15_1SameIsOfAll(t *testing.T) {
	for _, x := range twins() {
		for i, c := range x {
			if !clok.Same(c, c) || !clok.Same(c, clone(c)) {
				t.Errorf("%s is not the same as itself", show(c))
			}
			if other := x[1-i]; clok.Same(c, other) {
				t.Errorf("%s and %s are told the same", show(c), show(other))
			}
		}
	}
}

func Test15_1NilAndNoneAreTheSame(t *testing.T) {
	none, full := clok.New(2), clok.New(2)
	none.Pages, full.Pages = []api.Page{}, nil
	if !clok.Same(none, full) || !clok.Same(full, none) {
		t.Error("pages nil and none are told unlike")
	}
	for _, d := range calls(2) {
		a, _, _ := d.do(none)
		b, _, _ := d.do(full)
		if show(a) != show(b) {
			t.Errorf("%+v tells pages nil and none apart: %s and %s", d, show(a), show(b))
		}
	}
}

// tried are clocks on which calls are tried.
func tried() []api.Clock {
	l := []api.Clock{clok.New(2), clock("2 1 0,0,1 a:ct b:h1 c:xt d:xt"), clock("3 2 2,1,0 a:h b:hr c:crt d:xt e:xt"), clock("2 1 0,0,0 a:c1 b:h1 c:xt"), clock("4 4 0,1,2 a:xt b:hr c:h")}
	m := mixer(7)
	for range 200 {
		l = append(l, m.likely(1+m.below(5)))
	}
	return l
}

// roomy is c with spare room behind its pages, in which a page stands.
func roomy(c api.Clock) (api.Clock, []api.Page) {
	l := append(slices.Clone(c.Pages), page("q:h7"), page("r:ct7"), page("s:xt"))
	c.Pages = l[:len(c.Pages)]
	return c, l
}

func overwrite(c api.Clock, out []api.Key) {
	l, k := c.Pages[:cap(c.Pages)], out[:cap(out)]
	for i := range l {
		l[i] = page("w:hr77")
	}
	for i := range k {
		k[i] = key('w')
	}
}

func Test15_1WhatIsHandedInIsNotChanged(t *testing.T) {
	for _, was := range tried() {
		for _, d := range calls(12) {
			c, l := roomy(was)
			before := slices.Clone(l)
			d.do(c)
			clok.Find(c, d.k)
			clok.Same(c, c)
			if !slices.Equal(l, before) {
				t.Fatalf("%+v turned %v to %v", d, before, l)
			}
		}
	}
}

func Test15_1WhatIsAnsweredIsNewMemory(t *testing.T) {
	for _, was := range tried() {
		for _, d := range calls(12) {
			c, l := roomy(was)
			before := slices.Clone(l)
			got, out, _ := d.do(c)
			text := show(got)
			again, list, _ := d.do(c)
			overwrite(got, out)
			if !slices.Equal(l, before) {
				t.Fatalf("what %+v answers shares memory with %s", d, show(was))
			}
			if show(again) != text {
				t.Fatalf("two answers of %+v share memory", d)
			}
			text = show(again)
			overwrite(api.Clock{}, list)
			if show(again) != text {
				t.Fatalf("the lists that %+v answers share memory", d)
			}
		}
	}
}

func Test15_1WhatIsHandedInIsNotKept(t *testing.T) {
	for _, was := range tried() {
		for _, d := range calls(12) {
			c, _ := roomy(was)
			got, _, _ := d.do(c)
			text := show(got)
			overwrite(c, nil)
			if show(got) != text {
				t.Fatalf("%+v keeps the pages that it is given", d)
			}
		}
	}
}

func resident(c api.Clock) map[api.Key]int {
	l := map[api.Key]int{}
	for _, p := range c.Pages {
		if p.Kind == api.PHot || p.Kind == api.PCold {
			l[p.Key] = p.Pins
		}
	}
	return l
}

// checkClock holds that c is as a clock may be.
func checkClock(t *testing.T, c api.Clock) {
	t.Helper()
	n, in := len(c.Pages), len(resident(c))
	if in > c.Most || n-in > c.Most || c.Target < 1 || c.Target > c.Most {
		t.Fatalf("more than may be: %s", brief(c))
	}
	for _, hand := range []int{c.Hot, c.Cold, c.Test} {
		if hand < 0 || hand >= max(1, n) {
			t.Fatalf("a hand points nowhere: %s", brief(c))
		}
	}
	for i, p := range c.Pages {
		if clok.Find(c, p.Key) != i {
			t.Fatalf("%+v is there twice: %s", p.Key, brief(c))
		}
		if p.Kind < api.PHot || p.Kind > api.PTest || p.Pins < 0 || p.Kind == api.PHot && p.Trial || p.Kind == api.PTest && (p.Pins != 0 || p.Ref || !p.Trial) {
			t.Fatalf("no such page: %+v", p)
		}
	}
}

// checkPutOut holds that out were put out of c and had no pins, and nothing else was.
func checkPutOut(t *testing.T, c api.Clock, k api.Key, next api.Clock, out []api.Key) {
	t.Helper()
	was, now := resident(c), resident(next)
	if _, ok := now[k]; !ok {
		t.Fatalf("%+v did not come to %s", k, brief(c))
	}
	delete(now, k)
	for _, x := range out {
		if pins, ok := was[x]; !ok || pins != 0 || x == k {
			t.Fatalf("%+v was put out of %s", x, brief(c))
		}
		delete(was, x)
	}
	delete(was, k)
	for x, pins := range was {
		if left, ok := now[x]; !ok || left != pins {
			t.Fatalf("%+v had %d pins, now %d: %s", x, pins, left, brief(c))
		}
	}
	if len(was) != len(now) {
		t.Fatalf("%s has others than %s", brief(next), brief(c))
	}
}

// step does d beside the world, and holds that what it comes to is as W3 has it.
func step(t *testing.T, c api.Clock, d call) api.Clock {
	t.Helper()
	next := checkInWorld(t, c, d)
	checkClock(t, next)
	if _, out, ok := d.do(c); ok && d.name == "Admit" {
		checkPutOut(t, c, d.k, next, out)
	}
	return next
}

// goAll goes from a clock by each call of few keys to each clock that these come to, up to so many clocks; no page gets more than one pin.
func goAll(t *testing.T, most, few, bound int) int {
	todo := []api.Clock{clok.New(most)}
	seen := map[string]int{show(todo[0]): 1}
	for len(todo) > 0 {
		c := todo[0]
		todo = todo[1:]
		for _, d := range calls(few) {
			if at := clok.Find(c, d.k); d.n > 0 && at >= 0 && c.Pages[at].Pins > 0 {
				continue
			}
			next := step(t, c, d)
			if s := show(next); seen[s] == 0 && len(seen) < bound {
				seen[s] = 1
				todo = append(todo, next)
			}
		}
	}
	return len(seen)
}

func Test15_5EachClockOfFewPages(t *testing.T) {
	for _, x := range [][3]int{{1, 3, 3000}, {2, 4, 20000}, {3, 5, 10000}, {4, 7, 5000}} {
		t.Logf("%d clocks of %d, by %d keys", goAll(t, x[0], x[1], x[2]), x[0], x[1])
	}
}

func Test15_5LongRowsOfCalls(t *testing.T) {
	for _, most := range []int{1, 2, 3, 4, 5, 7, 10, 20} {
		for _, few := range []int{most, most + 1, most + 2, 2*most + 1, 3*most + 2} {
			m := mixer(most*100 + few)
			c := clok.New(most)
			for range 2000 {
				c = step(t, c, m.call(few))
			}
		}
	}
}

func Test15_5AnyClocksThatMayBe(t *testing.T) {
	m := mixer(15)
	for range 40000 {
		most := 1 + m.below(6)
		c := m.likely(most)
		checkClock(t, c)
		step(t, c, call{"Admit", m.key(2*most + 2), 0})
		step(t, c, m.call(2*most+2))
	}
}

func Test15_5AThousand(t *testing.T) {
	c := clok.New(5000)
	at := func(n int) api.Key { return api.Key{Series: n % 16, Life: n / 700, Blob: n} }
	for i := range 1000 {
		c = check1000(t, c, call{"Admit", at(i), 0})
	}
	if len(resident(c)) != 1000 {
		t.Fatalf("%d are resident", len(resident(c)))
	}
	m := mixer(1000)
	for i := range 1500 {
		c = check1000(t, c, call{"Touch", at(m.below(1000 + i)), 0})
		c = check1000(t, c, call{"Admit", at(m.below(1001 + i)), 0})
		if i%3 == 0 {
			c = check1000(t, c, call{"Pin", at(m.below(1000 + i)), 1})
		}
	}
}

func Test15_5AThousandThatWereUsed(t *testing.T) {
	for _, target := range []int{1, 2, 500, 1000} {
		for _, kind := range []string{"a:crt", "a:hr", "a:ct", "a:h", "a:crt1", "a:hr1"} {
			c := api.Clock{Most: 1000, Target: target, Hot: 700, Cold: 300, Test: 999}
			for i := range 1000 {
				p := page(kind)
				p.Key.Blob = i
				c.Pages = append(c.Pages, p)
			}
			c.Pages[299].Pins = 0
			step(t, c, call{"Admit", key('z'), 0})
		}
	}
}

func check1000(t *testing.T, c api.Clock, d call) api.Clock {
	t.Helper()
	next, out, ok := d.do(c)
	checkClock(t, next)
	if ok && d.name == "Admit" {
		checkPutOut(t, c, d.k, next, out)
	}
	return next
}

// Test15_6Any calls with whatever a clock's fields may hold.
func Test15_6Any(t *testing.T) {
	m := mixer(156)
	for range 60000 {
		c := m.any()
		was := show(c)
		for _, d := range []call{{"Admit", m.key(9), 0}, m.call(9), {"Pin", m.key(9), m.number(5)}, {"Drop", m.key(9), 0}, {"Touch", m.key(9), 0}} {
			got, out, ok := d.do(c)
			if !ok && (show(got) != was || len(out) > 0) {
				t.Fatalf("%+v of %s is false, and comes to %s, %v", d, was, show(got), out)
			}
			again, list, yes := d.do(c)
			if show(again) != show(got) || yes != ok || !slices.Equal(list, out) {
				t.Fatalf("%+v of %s comes to two", d, was)
			}
			clok.Find(got, d.k)
			clok.Same(got, c)
		}
		if show(c) != was {
			t.Fatalf("%s is now %s", was, show(c))
		}
	}
}

// Test15_6AnyGoesOn calls on what calls come to from any clock.
func Test15_6AnyGoesOn(t *testing.T) {
	m := mixer(1566)
	for range 2000 {
		c := m.any()
		for range 30 {
			c, _, _ = m.call(9).do(c)
		}
	}
}

func Test15_6ClocksWithoutRoom(t *testing.T) {
	for _, most := range []int{math.MinInt, -1, 0} {
		for _, l := range [][]api.Page{nil, {page("a:h")}, {page("a:ct")}, {page("a:crt"), page("b:xt")}, {page("a:xt")}} {
			for _, d := range calls(3) {
				got, _, _ := d.do(api.Clock{Most: most, Target: 1, Pages: l})
				if len(resident(got)) > len(resident(api.Clock{Pages: l})) {
					t.Errorf("%+v: %s", d, show(got))
				}
			}
		}
	}
}
