package modl_test

import (
	"fmt"
	"math"
	"slices"
	"testing"

	"ephemeris/api"
	"ephemeris/modl"
)

const (
	near = math.MinInt64
	far  = math.MaxInt64
	top  = math.MaxUint64
)

// edges are times, rising.
var edges = []int64{near, near + 1, -1 << 62, -1 << 32, -65, -2, -1, 0, 1, 2, 63, 1 << 31, 1 << 32, 1 << 62, far - 1, far}

// ofSeries and ofIters are the kinds that name a series, and those that name an iterator.
var (
	ofSeries = []int{api.OAppend, api.ORead, api.OSeal, api.ODelete, api.OOpen}
	ofIters  = []int{api.ONext, api.OClose}
)

// Short ways to say an op.

func appendOp(series int, at int64, v uint64) api.Op {
	return api.Op{Kind: api.OAppend, Series: series, T: at, V: v}
}

func readOp(series int, from, to int64) api.Op {
	return api.Op{Kind: api.ORead, Series: series, From: from, To: to}
}

func sealOp(series int) api.Op {
	return api.Op{Kind: api.OSeal, Series: series}
}

func deleteOp(series int) api.Op {
	return api.Op{Kind: api.ODelete, Series: series}
}

func openOp(series int, from, to int64) api.Op {
	return api.Op{Kind: api.OOpen, Series: series, From: from, To: to}
}

func nextOp(iter, n int) api.Op {
	return api.Op{Kind: api.ONext, Iter: iter, N: n}
}

func closeOp(iter int) api.Op {
	return api.Op{Kind: api.OClose, Iter: iter}
}

// The world beside which the package is held: what was accepted of each series since it was begun, by maps, and of each iterator what it saw and how much of it was told.

type life struct {
	sealed bool
	all    []api.Sample
}

type sight struct {
	seen []api.Sample
	told int
}

type world struct {
	lives  map[int]*life
	sights map[int]*sight
	opened int
}

func newWorld() *world {
	return &world{lives: map[int]*life{}, sights: map[int]*sight{}}
}

// refused tells why o is refused; OK, where it is not.
func (w *world) refused(o api.Op) api.Errno {
	if !slices.Contains(ofSeries, o.Kind) && !slices.Contains(ofIters, o.Kind) {
		return api.ErrOp
	}
	if slices.Contains(ofIters, o.Kind) {
		if w.sights[o.Iter] == nil {
			return api.ErrNone
		}
		return api.OK
	}
	if o.Series != o.Series&15 {
		return api.ErrOp
	}
	s := w.lives[o.Series]
	switch {
	case s == nil && o.Kind == api.OAppend:
		return api.OK
	case s == nil:
		return api.ErrNone
	case s.sealed && (o.Kind == api.OAppend || o.Kind == api.OSeal):
		return api.ErrSealed
	case o.Kind == api.OAppend && slices.ContainsFunc(s.all, func(x api.Sample) bool { return x.T >= o.T }):
		return api.ErrOrder
	case o.Kind == api.OOpen && len(w.sights) == 8:
		return api.ErrOpen
	}
	return api.OK
}

// do does o in the world as it stands.
func (w *world) do(o api.Op) api.Result {
	if e := w.refused(o); e != api.OK {
		return api.Result{Err: e}
	}
	switch o.Kind {
	case api.OAppend:
		if w.lives[o.Series] == nil {
			w.lives[o.Series] = &life{}
		}
		s := w.lives[o.Series]
		s.all = append(s.all, api.Sample{T: o.T, V: o.V})
	case api.ORead:
		return api.Result{List: w.seen(o)}
	case api.OSeal:
		w.lives[o.Series].sealed = true
	case api.ODelete:
		delete(w.lives, o.Series)
	case api.OOpen:
		w.opened++
		w.sights[w.opened] = &sight{seen: w.seen(o)}
		return api.Result{Iter: w.opened}
	case api.ONext:
		return api.Result{List: w.sights[o.Iter].tell(o.N)}
	case api.OClose:
		delete(w.sights, o.Iter)
	}
	return api.Result{}
}

func (w *world) seen(o api.Op) []api.Sample {
	return slices.DeleteFunc(slices.Clone(w.lives[o.Series].all), func(x api.Sample) bool { return x.T < o.From || x.T > o.To })
}

func (g *sight) tell(n int) []api.Sample {
	var out []api.Sample
	for len(out) < n && len(out) < 1000 && g.told < len(g.seen) {
		out = append(out, g.seen[g.told])
		g.told++
	}
	return out
}

// model is the world as a model. It shares no memory with the world.
func (w *world) model() api.Model {
	m := api.Model{Next: w.opened}
	for id := range 16 {
		if s := w.lives[id]; s != nil {
			m.Series = append(m.Series, api.Series{ID: id, Sealed: s.sealed, Any: true, Last: s.all[len(s.all)-1].T, List: slices.Clone(s.all)})
		}
	}
	for id := range w.opened + 1 {
		if g := w.sights[id]; g != nil {
			m.Iters = append(m.Iters, api.Iter{ID: id, Rest: slices.Clone(g.seen[g.told:])})
		}
	}
	return m
}

// mixer makes numbers that look like any, the same ones in each run.
type mixer uint64

func (m *mixer) next() uint64 {
	*m += 0x9e3779b97f4a7c15
	z := uint64(*m)
	z = (z ^ z>>30) * 0xbf58476d1ce4e5b9
	z = (z ^ z>>27) * 0x94d049bb133111eb
	return z ^ z>>31
}

// below tells a number of 0 to n-1.
func (m *mixer) below(n int) int {
	return int(m.next() % uint64(n))
}

// time tells any time, often at an edge, or a small one.
func (m *mixer) time() int64 {
	switch m.below(3) {
	case 0:
		return edges[m.below(len(edges))]
	case 1:
		return int64(m.below(41)) - 20
	}
	return int64(m.next())
}

// samples tells up to n samples, in any order.
func (m *mixer) samples(n int) []api.Sample {
	var l []api.Sample
	for range m.below(n + 1) {
		l = append(l, api.Sample{T: m.time(), V: m.next()})
	}
	return l
}

// number tells any number, mostly a small one.
func (m *mixer) number(few int) int {
	switch m.below(8) {
	case 0:
		return -1
	case 1:
		return few
	case 2:
		return int(m.next())
	}
	return m.below(few)
}

// op tells any op, what its kind does not name filled too.
func (m *mixer) op() api.Op {
	return api.Op{Kind: m.number(9), Series: m.number(16), Iter: m.number(12), T: m.time(), V: m.next(), From: m.time(), To: m.time(), N: m.number(30)}
}

// likely tells an op of few series, whose times rise, so that little is refused.
func (m *mixer) likely(now int64) api.Op {
	o := api.Op{Kind: api.OAppend, Series: m.below(4), Iter: 1 + m.below(12), T: now, V: m.next() >> m.below(64), From: int64(m.below(200)) - 20, To: now - int64(m.below(60)) + 20, N: m.below(9)}
	switch x := m.below(40); {
	case x < 18:
	case x < 24:
		o.Kind = api.ORead
	case x == 24:
		o.Kind = api.OSeal
	case x < 28:
		o.Kind = api.ODelete
	case x < 31:
		o.Kind = api.OOpen
	case x < 37:
		o.Kind = api.ONext
	case x < 39:
		o.Kind = api.OClose
	default:
		o.T -= int64(m.below(30))
	}
	return o
}

// any tells a model of whatever its fields may hold, whether ops come to it or not.
func (m *mixer) any() api.Model {
	x := api.Model{Next: m.number(12)}
	for range m.below(5) {
		x.Series = append(x.Series, api.Series{ID: m.number(16), Sealed: m.below(3) == 0, Any: m.below(3) > 0, Last: m.time(), List: m.samples(6)})
	}
	for range m.below(11) {
		x.Iters = append(x.Iters, api.Iter{ID: m.number(12), Rest: m.samples(6)})
	}
	return x
}

// clone is m in new memory.
func clone(m api.Model) api.Model {
	m.Series, m.Iters = slices.Clone(m.Series), slices.Clone(m.Iters)
	for i := range m.Series {
		m.Series[i].List = slices.Clone(m.Series[i].List)
	}
	for i := range m.Iters {
		m.Iters[i].Rest = slices.Clone(m.Iters[i].Rest)
	}
	return m
}

// show tells a model, or a result, all that it holds; none of the samples and nil are told alike.
func show(x any) string {
	if s := fmt.Sprintf("%+v", x); len(s) < 3000 {
		return s
	}
	return fmt.Sprintf("%.3000s..", fmt.Sprintf("%+v", x))
}

// alike holds two models against each other field by field, by what Go prints of them; Same itself is under test.
func alike(a, b any) bool {
	return fmt.Sprintf("%+v", a) == fmt.Sprintf("%+v", b)
}

// checkDo holds that o on m comes to this model and this result, and that m stays.
func checkDo(t *testing.T, m api.Model, o api.Op, want api.Model, r api.Result) api.Model {
	t.Helper()
	was := clone(m)
	next, got := modl.Do(m, o)
	if !alike(got, r) {
		t.Fatalf("Do(%s, %+v) answers %s, not %s", show(m), o, show(got), show(r))
	}
	if !alike(next, want) {
		t.Fatalf("Do(%s, %+v) comes to %s, not %s", show(m), o, show(next), show(want))
	}
	if !alike(m, was) {
		t.Fatalf("%+v turned %s to %s", o, show(was), show(m))
	}
	return next
}

// checkRefused holds that o is refused so, and the model stays.
func checkRefused(t *testing.T, m api.Model, o api.Op, e api.Errno) {
	t.Helper()
	checkDo(t, m, o, m, api.Result{Err: e})
}

// checkAnswer holds that o answers this, and the model stays.
func checkAnswer(t *testing.T, m api.Model, o api.Op, l []api.Sample) {
	t.Helper()
	checkDo(t, m, o, m, api.Result{List: l})
}

// done is what ops come to, none of which may be refused.
func done(t *testing.T, m api.Model, ops ...api.Op) api.Model {
	t.Helper()
	for _, o := range ops {
		next, r := modl.Do(m, o)
		if r.Err != api.OK {
			t.Fatalf("Do(%s, %+v) is error %d", show(m), o, r.Err)
		}
		m = next
	}
	return m
}

// row is a row of samples: a time, a value, a time, a value.
func row(l ...int64) []api.Sample {
	var out []api.Sample
	for i := 0; i+1 < len(l); i += 2 {
		out = append(out, api.Sample{T: l[i], V: uint64(l[i+1])})
	}
	return out
}

// clock is a row of n samples at the times 0, 1, 2 and so on, of these values.
func clock(n int) []api.Sample {
	l := make([]api.Sample, n)
	for i := range l {
		l[i] = api.Sample{T: int64(i), V: uint64(i)}
	}
	return l
}

// series is a series as only l came to it.
func series(id int, l ...api.Sample) api.Series {
	return api.Series{ID: id, Any: len(l) > 0, Last: l[len(l)-1].T, List: l}
}

// sealed is that one, sealed.
func sealed(s api.Series) api.Series {
	s.Sealed = true
	return s
}

// wide is a model that has something of all: series 2, open, 5, sealed; iterators 3 and 6, of 7.
func wide() api.Model {
	return api.Model{
		Series: []api.Series{series(2, row(-9, 1, 4, 2, 8, 3)...), sealed(series(5, row(0, 7)...))},
		Iters:  []api.Iter{{ID: 3, Rest: row(4, 2, 8, 3)}, {ID: 6}},
		Next:   7,
	}
}

func Test14_1TheZeroModel(t *testing.T) {
	for id := range 16 {
		for _, k := range ofSeries[1:] {
			checkRefused(t, api.Model{}, api.Op{Kind: k, Series: id, To: far}, api.ErrNone)
		}
		checkDo(t, api.Model{}, appendOp(id, 3, 4), api.Model{Series: []api.Series{series(id, row(3, 4)...)}}, api.Result{})
	}
	for _, id := range []int{math.MinInt, -1, 0, 1, 2, 8, math.MaxInt} {
		for _, k := range ofIters {
			checkRefused(t, api.Model{}, api.Op{Kind: k, Iter: id, N: 3}, api.ErrNone)
		}
	}
	checkRefused(t, api.Model{}, api.Op{}, api.ErrOp)
}

func Test14_1KindsThatAreNone(t *testing.T) {
	for _, m := range []api.Model{{}, wide()} {
		for _, k := range []int{math.MinInt, -1 << 32, -7, -1, 0, 8, 9, 255, 257, 1<<32 + 1, math.MaxInt} {
			for _, id := range []int{-1, 0, 2, 5, 15, 16} {
				checkRefused(t, m, api.Op{Kind: k, Series: id, Iter: 3, T: 9, To: far, N: 1}, api.ErrOp)
			}
		}
	}
}

func Test14_1SeriesThatAreNone(t *testing.T) {
	for _, m := range []api.Model{{}, wide()} {
		for _, id := range []int{math.MinInt, -1 << 32, -16, -1, 16, 17, 31, 258, 1<<32 + 2, math.MaxInt} {
			for _, k := range ofSeries {
				checkRefused(t, m, api.Op{Kind: k, Series: id, Iter: 3, T: 9, To: far, N: 1}, api.ErrOp)
			}
		}
	}
}

func Test14_1ASeriesThatIsNoneIsAheadOfAllElse(t *testing.T) {
	m := api.Model{Next: 8}
	for _, id := range []int{-1, 16} {
		m.Series = append(m.Series, sealed(series(id, row(9, 9)...)))
	}
	for i := range 8 {
		m.Iters = append(m.Iters, api.Iter{ID: i + 1})
	}
	for _, id := range []int{-1, 16} {
		for _, k := range ofSeries {
			checkRefused(t, m, api.Op{Kind: k, Series: id}, api.ErrOp)
		}
	}
}

func Test14_1KindsOfIteratorsNameNoSeries(t *testing.T) {
	m := wide()
	for _, id := range []int{math.MinInt, -1, 0, 2, 5, 15, 16, math.MaxInt} {
		next, told := clone(m), clone(m)
		next.Iters = next.Iters[1:]
		told.Iters[0].Rest = row(8, 3)
		checkDo(t, m, api.Op{Kind: api.ONext, Series: id, Iter: 3, N: 1}, told, api.Result{List: row(4, 2)})
		checkDo(t, m, api.Op{Kind: api.OClose, Series: id, Iter: 3}, next, api.Result{})
		checkRefused(t, m, api.Op{Kind: api.ONext, Series: id, Iter: 4, N: 1}, api.ErrNone)
		checkRefused(t, m, api.Op{Kind: api.OClose, Series: id, Iter: 4}, api.ErrNone)
	}
}

// named is o with only the fields that its kind names.
func named(o api.Op) api.Op {
	switch o.Kind {
	case api.OAppend:
		return appendOp(o.Series, o.T, o.V)
	case api.ORead, api.OOpen:
		return api.Op{Kind: o.Kind, Series: o.Series, From: o.From, To: o.To}
	case api.OSeal, api.ODelete:
		return api.Op{Kind: o.Kind, Series: o.Series}
	case api.ONext:
		return nextOp(o.Iter, o.N)
	case api.OClose:
		return closeOp(o.Iter)
	}
	return api.Op{Kind: o.Kind}
}

func Test14_1OnlyWhatAKindNamesCounts(t *testing.T) {
	m := mixer(1)
	for range 20000 {
		x, o := m.any(), m.op()
		want, r := modl.Do(clone(x), named(o))
		checkDo(t, x, o, want, r)
	}
}

func Test14_1SeriesAreBegunInAnyOrder(t *testing.T) {
	m := mixer(2)
	for range 200 {
		order := clock(16)
		for i := range order {
			k := m.below(i + 1)
			order[i], order[k] = order[k], order[i]
		}
		var x, want api.Model
		for i, s := range order {
			want.Series = append(want.Series, series(int(s.T), row(s.T*1000-8000, int64(i))...))
			slices.SortFunc(want.Series, func(a, b api.Series) int { return a.ID - b.ID })
			x = checkDo(t, x, appendOp(int(s.T), s.T*1000-8000, uint64(i)), want, api.Result{})
		}
	}
}

func Test14_1AppendAboutEachTime(t *testing.T) {
	for i, last := range edges {
		m := done(t, wide(), appendOp(3, last, 50))
		for k, at := range edges {
			for _, v := range []uint64{0, 50, top} {
				if k <= i {
					checkRefused(t, m, appendOp(3, at, v), api.ErrOrder)
					continue
				}
				want := clone(m)
				want.Series[1] = series(3, api.Sample{T: last, V: 50}, api.Sample{T: at, V: v})
				checkDo(t, m, appendOp(3, at, v), want, api.Result{})
			}
		}
	}
}

func Test14_1AppendGoesByLastAndNotByTheList(t *testing.T) {
	for _, last := range edges[:len(edges)-1] {
		m := api.Model{Series: []api.Series{{ID: 4, Any: true, Last: last}}}
		checkRefused(t, m, appendOp(4, last, 1), api.ErrOrder)
		checkDo(t, m, appendOp(4, last+1, 1), api.Model{Series: []api.Series{series(4, row(last+1, 1)...)}}, api.Result{})
		// nothing came ahead, so any time may come
		m.Series[0].Any = false
		for _, at := range edges {
			checkDo(t, m, appendOp(4, at, 1), api.Model{Series: []api.Series{series(4, row(at, 1)...)}}, api.Result{})
		}
	}
}

func Test14_1AppendToASealedSeries(t *testing.T) {
	m := wide()
	for _, at := range edges {
		// at times that are too early, too: what is sealed comes first
		checkRefused(t, m, appendOp(5, at, 1), api.ErrSealed)
	}
	m.Series[1] = api.Series{ID: 5, Sealed: true}
	checkRefused(t, m, appendOp(5, 1, 1), api.ErrSealed)
	m = done(t, m, deleteOp(5), appendOp(5, near, 1))
	checkDo(t, m, sealOp(5), api.Model{Series: []api.Series{m.Series[0], sealed(series(5, row(near, 1)...))}, Iters: m.Iters, Next: 7}, api.Result{})
}

func Test14_1ReadAboutEachTime(t *testing.T) {
	var m api.Model
	for i, at := range edges {
		m = done(t, m, appendOp(0, at, uint64(i)), appendOp(9, at, 1000))
	}
	for _, x := range []api.Model{m, done(t, m, sealOp(0))} {
		for i, from := range edges {
			for k, to := range edges {
				var want []api.Sample
				if i <= k {
					want = x.Series[0].List[i : k+1]
				}
				checkAnswer(t, x, readOp(0, from, to), want)
			}
		}
	}
}

func Test14_1ReadBetweenTimes(t *testing.T) {
	m := done(t, api.Model{}, appendOp(1, 10, 1), appendOp(1, 20, 2), appendOp(1, 30, 3))
	for from := int64(5); from < 40; from++ {
		for to := int64(5); to < 40; to++ {
			var want []api.Sample
			for _, s := range row(10, 1, 20, 2, 30, 3) {
				if s.T >= from && s.T <= to {
					want = append(want, s)
				}
			}
			checkAnswer(t, m, readOp(1, from, to), want)
		}
	}
}

func Test14_1ReadOfASeriesWithoutSamples(t *testing.T) {
	for _, s := range []api.Series{{ID: 7}, {ID: 7, Any: true, Last: 4}, {ID: 7, Sealed: true}, {ID: 7, List: []api.Sample{}}} {
		checkAnswer(t, api.Model{Series: []api.Series{s}}, readOp(7, near, far), nil)
		checkRefused(t, api.Model{Series: []api.Series{s}}, readOp(6, near, far), api.ErrNone)
		checkRefused(t, api.Model{Series: []api.Series{s}}, readOp(8, near, far), api.ErrNone)
	}
}

func Test14_1SealIsOfOneSeriesAndOnce(t *testing.T) {
	var m api.Model
	for id := range 16 {
		m = done(t, m, appendOp(id, int64(id), 1))
	}
	for id := range 16 {
		want := clone(m)
		want.Series[id].Sealed = true
		next := checkDo(t, m, sealOp(id), want, api.Result{})
		checkRefused(t, next, sealOp(id), api.ErrSealed)
		checkRefused(t, next, appendOp(id, 99, 1), api.ErrSealed)
		checkAnswer(t, next, readOp(id, near, far), m.Series[id].List)
		done(t, next, appendOp((id+1)%16, 99, 1), sealOp((id+1)%16), openOp(id, near, far), deleteOp(id))
	}
	checkDo(t, api.Model{Series: []api.Series{{ID: 7}}}, sealOp(7), api.Model{Series: []api.Series{{ID: 7, Sealed: true}}}, api.Result{})
	checkRefused(t, wide(), sealOp(3), api.ErrNone)
}

func Test14_1DeleteTakesAllThatItHad(t *testing.T) {
	var m api.Model
	for id := range 16 {
		m = done(t, m, appendOp(id, 100, 1))
		if id%2 == 0 {
			m = done(t, m, sealOp(id))
		}
	}
	for id := range 16 {
		want := clone(m)
		want.Series = slices.Delete(want.Series, id, id+1)
		next := checkDo(t, m, deleteOp(id), want, api.Result{})
		for _, k := range ofSeries[1:] {
			checkRefused(t, next, api.Op{Kind: k, Series: id, From: near, To: far}, api.ErrNone)
		}
		// a new one begins with nothing: neither sealed, nor a last time, nor samples
		want.Series = slices.Insert(want.Series, id, series(id, row(near, 9)...))
		checkDo(t, next, appendOp(id, near, 9), want, api.Result{})
	}
	checkRefused(t, wide(), deleteOp(3), api.ErrNone)
}

func Test14_1DeleteOfEachOneByOne(t *testing.T) {
	var m api.Model
	for id := range 16 {
		m = done(t, m, appendOp(id, 100, 1))
	}
	for _, id := range []int{15, 0, 8, 7, 1, 14, 3, 4, 5, 2, 13, 12, 6, 9, 11, 10} {
		m = done(t, m, deleteOp(id))
	}
	if !alike(m, api.Model{}) {
		t.Fatal(show(m))
	}
}

func Test14_1OpenNumbersEachIterator(t *testing.T) {
	m := wide()
	m.Iters, m.Next = nil, 0
	for i, to := range []int64{near, -10, 3, 4, 7, 8, 9, far} {
		want := clone(m)
		want.Next = i + 1
		_, seen := modl.Do(m, readOp(2, 0, to))
		want.Iters = append(want.Iters, api.Iter{ID: i + 1, Rest: seen.List})
		m = checkDo(t, m, openOp(2, 0, to), want, api.Result{Iter: i + 1})
	}
	for range 3 {
		checkRefused(t, m, openOp(2, near, far), api.ErrOpen)
		checkRefused(t, m, openOp(5, 3, 2), api.ErrOpen)
		checkRefused(t, m, openOp(3, near, far), api.ErrNone)
		checkRefused(t, m, openOp(16, near, far), api.ErrOp)
	}
}

func Test14_1NumbersAreNotGivenAgain(t *testing.T) {
	m := done(t, api.Model{}, appendOp(0, 1, 1))
	for i := range 40 {
		want := clone(m)
		want.Next, want.Iters = i+1, []api.Iter{{ID: i + 1, Rest: row(1, 1)}}
		m = checkDo(t, m, openOp(0, near, far), want, api.Result{Iter: i + 1})
		if i%3 == 0 {
			m = done(t, m, deleteOp(0), appendOp(0, 1, 1))
		}
		want = clone(m)
		want.Iters = nil
		m = checkDo(t, m, closeOp(i+1), want, api.Result{})
		checkRefused(t, m, closeOp(i+1), api.ErrNone)
		checkRefused(t, m, nextOp(i+1, 1), api.ErrNone)
	}
}

func Test14_1EightIteratorsAtMost(t *testing.T) {
	for n := range 12 {
		m := api.Model{Series: []api.Series{series(0, row(1, 1)...)}, Next: 50}
		for i := range n {
			m.Iters = append(m.Iters, api.Iter{ID: 2*i + 1, Rest: row(5, 5)})
		}
		if n >= 8 {
			checkRefused(t, m, openOp(0, near, far), api.ErrOpen)
			checkRefused(t, m, openOp(1, near, far), api.ErrNone)
			continue
		}
		want := clone(m)
		want.Next, want.Iters = 51, append(want.Iters, api.Iter{ID: 51, Rest: row(1, 1)})
		checkDo(t, m, openOp(0, near, far), want, api.Result{Iter: 51})
	}
}

func Test14_1ClosingMakesRoom(t *testing.T) {
	m := done(t, api.Model{}, appendOp(0, 1, 1))
	for range 8 {
		m = done(t, m, openOp(0, near, far))
	}
	for i, gone := range []int{4, 1, 8, 9, 2, 12, 13, 7} {
		checkRefused(t, m, openOp(0, near, far), api.ErrOpen)
		want := clone(m)
		want.Iters = slices.DeleteFunc(want.Iters, func(x api.Iter) bool { return x.ID == gone })
		m = checkDo(t, m, closeOp(gone), want, api.Result{})
		want.Next, want.Iters = 9+i, append(want.Iters, api.Iter{ID: 9 + i, Rest: row(1, 1)})
		m = checkDo(t, m, openOp(0, near, far), want, api.Result{Iter: 9 + i})
	}
}

func Test14_1AnIteratorHasWhatWasThere(t *testing.T) {
	all := row(1, 10, 2, 20, 3, 30, 4, 40)
	m := done(t, api.Model{}, appendOp(0, 1, 10), appendOp(0, 2, 20), appendOp(0, 3, 30), appendOp(0, 4, 40), openOp(0, 2, 9))
	for i, ops := range [][]api.Op{
		{},
		{appendOp(0, 5, 50)},
		{sealOp(0)},
		{deleteOp(0)},
		{deleteOp(0), appendOp(0, 2, 99), appendOp(0, 3, 98)},
		{openOp(0, 1, 3), nextOp(2, 2)},
		{openOp(0, 1, 3), closeOp(2)},
		{appendOp(1, 2, 77), readOp(0, 1, 4)},
	} {
		x := done(t, m, ops...)
		want := clone(x)
		want.Iters[0].Rest = all[3:]
		x = checkDo(t, x, nextOp(1, 2), want, api.Result{List: all[1:3]})
		want.Iters[0].Rest = nil
		x = checkDo(t, x, nextOp(1, 2), want, api.Result{List: all[3:]})
		checkAnswer(t, x, nextOp(1, 2), nil)
		if i == 7 {
			want.Iters = nil
			checkDo(t, x, closeOp(1), want, api.Result{})
		}
	}
}

func Test14_1NextIsHeld(t *testing.T) {
	all := clock(2500)
	for _, have := range []int{0, 1, 2, 3, 998, 999, 1000, 1001, 1002, 2500} {
		for _, n := range []int{math.MinInt, -1 << 32, -1000, -2, -1, 0, 1, 2, 3, 998, 999, 1000, 1001, 1002, 2499, 2500, 2501, 65536, 1<<32 + 1, math.MaxInt} {
			told := min(have, max(0, n), 1000)
			m := api.Model{Iters: []api.Iter{{ID: 2, Rest: all[1:3]}, {ID: 3, Rest: all[:have]}, {ID: 4, Rest: all[4:7]}}, Next: 4}
			want := clone(m)
			want.Iters[1].Rest = all[told:have]
			checkDo(t, m, nextOp(3, n), want, api.Result{List: all[:told]})
		}
	}
}

func Test14_1NextTellsEachOnce(t *testing.T) {
	all := clock(300)
	for n := 1; n < 310; n++ {
		m := api.Model{Iters: []api.Iter{{ID: 1, Rest: all}}, Next: 1}
		var told []api.Sample
		for range (300 + n - 1) / n {
			next, r := modl.Do(m, nextOp(1, n))
			if len(r.List) == 0 || len(r.List) > n {
				t.Fatal(n, len(r.List))
			}
			told, m = append(told, r.List...), next
		}
		if !slices.Equal(told, all) {
			t.Fatal(n, told)
		}
		for range 3 {
			checkAnswer(t, m, nextOp(1, n), nil)
		}
	}
}

func Test14_1IteratorsThatAreNone(t *testing.T) {
	m := wide()
	for _, id := range []int{math.MinInt, -3, -1, 0, 1, 2, 4, 5, 7, 8, 259, 1<<32 + 3, math.MaxInt} {
		for _, n := range []int{-1, 0, 1, 5000} {
			checkRefused(t, m, nextOp(id, n), api.ErrNone)
		}
		checkRefused(t, m, closeOp(id), api.ErrNone)
	}
}

func Test14_1CloseIsOfOneIterator(t *testing.T) {
	m := api.Model{Series: wide().Series, Next: 30}
	for i := range 8 {
		m.Iters = append(m.Iters, api.Iter{ID: 3*i + 2, Rest: clock(i)})
	}
	for i := range 8 {
		want := clone(m)
		want.Iters = slices.Delete(want.Iters, i, i+1)
		next := checkDo(t, m, closeOp(3*i+2), want, api.Result{})
		checkRefused(t, next, closeOp(3*i+2), api.ErrNone)
		checkRefused(t, next, nextOp(3*i+2, 1), api.ErrNone)
	}
}

func Test14_1LongSeries(t *testing.T) {
	all := clock(70000)
	m := api.Model{Series: []api.Series{series(0, all...)}}
	checkRefused(t, m, appendOp(0, 69999, 1), api.ErrOrder)
	m = done(t, m, appendOp(0, 70000, 70000))
	all = append(all, api.Sample{T: 70000, V: 70000})
	for _, x := range [][2]int64{{near, far}, {0, 65534}, {0, 65535}, {0, 65536}, {65535, 65536}, {70000, far}, {1, 69999}} {
		from, to := max(0, x[0]), min(x[1], 70000)
		_, r := modl.Do(m, readOp(0, x[0], x[1]))
		next, _ := modl.Do(m, openOp(0, x[0], x[1]))
		if want := all[from : to+1]; r.Err != api.OK || !slices.Equal(r.List, want) || !slices.Equal(next.Iters[0].Rest, want) {
			t.Fatal(x, r.Err, len(r.List))
		}
	}
}

// twins are pairs of models that are unlike in one thing.
func twins() [][2]api.Model {
	var out [][2]api.Model
	for _, turn := range []func(m *api.Model){
		func(m *api.Model) { m.Next = 8 },
		func(m *api.Model) { m.Next = 0 },
		func(m *api.Model) { m.Series = nil },
		func(m *api.Model) { m.Series = m.Series[:1] },
		func(m *api.Model) { m.Series = m.Series[1:] },
		func(m *api.Model) { m.Series[0], m.Series[1] = m.Series[1], m.Series[0] },
		func(m *api.Model) { m.Series = append(m.Series, api.Series{}) },
		func(m *api.Model) { m.Series[1].ID = 6 },
		func(m *api.Model) { m.Series[1].Sealed = false },
		func(m *api.Model) { m.Series[0].Sealed = true },
		func(m *api.Model) { m.Series[1].Any = false },
		func(m *api.Model) { m.Series[1].Last = 1 },
		func(m *api.Model) { m.Series[1].List = nil },
		func(m *api.Model) { m.Series[0].List = m.Series[0].List[:2] },
		func(m *api.Model) { m.Series[0].List = append(m.Series[0].List, api.Sample{}) },
		func(m *api.Model) { m.Series[0].List[2].T = 9 },
		func(m *api.Model) { m.Series[0].List[2].V = 9 },
		func(m *api.Model) {
			m.Series[0].List[0], m.Series[0].List[1] = m.Series[0].List[1], m.Series[0].List[0]
		},
		func(m *api.Model) { m.Iters = nil },
		func(m *api.Model) { m.Iters = m.Iters[:1] },
		func(m *api.Model) { m.Iters = m.Iters[1:] },
		func(m *api.Model) { m.Iters[0], m.Iters[1] = m.Iters[1], m.Iters[0] },
		func(m *api.Model) { m.Iters = append(m.Iters, api.Iter{}) },
		func(m *api.Model) { m.Iters[1].ID = 5 },
		func(m *api.Model) { m.Iters[0].Rest = nil },
		func(m *api.Model) { m.Iters[0].Rest = m.Iters[0].Rest[:1] },
		func(m *api.Model) { m.Iters[1].Rest = make([]api.Sample, 1) },
		func(m *api.Model) { m.Iters[0].Rest[1].T = 9 },
		func(m *api.Model) { m.Iters[0].Rest[1].V = 9 },
	} {
		x := wide()
		turn(&x)
		out = append(out, [2]api.Model{x, wide()})
	}
	return out
}

func Test14_1SameIsOfAll(t *testing.T) {
	for i, x := range twins() {
		if modl.Same(x[0], x[1]) || modl.Same(x[1], x[0]) {
			t.Fatal(i, show(x[0]))
		}
		if !modl.Same(x[0], clone(x[0])) || !modl.Same(x[1], clone(x[1])) {
			t.Fatal(i, "is not the same as itself")
		}
	}
	m := mixer(3)
	for range 5000 {
		x := m.any()
		y, _ := modl.Do(x, m.op())
		if !modl.Same(x, clone(x)) || modl.Same(x, y) != alike(x, y) || modl.Same(y, x) != alike(x, y) {
			t.Fatal(show(x), show(y))
		}
	}
}

func Test14_1SameResultIsOfAll(t *testing.T) {
	whole := func() api.Result { return api.Result{Err: 3, Iter: 4, List: row(5, 6, 7, 8)} }
	for i, turn := range []func(r *api.Result){
		func(r *api.Result) { r.Err = 4 },
		func(r *api.Result) { r.Err = 0 },
		func(r *api.Result) { r.Iter = 5 },
		func(r *api.Result) { r.Iter = 0 },
		func(r *api.Result) { r.List = nil },
		func(r *api.Result) { r.List = r.List[:1] },
		func(r *api.Result) { r.List = r.List[1:] },
		func(r *api.Result) { r.List = append(r.List, api.Sample{}) },
		func(r *api.Result) { r.List[0], r.List[1] = r.List[1], r.List[0] },
		func(r *api.Result) { r.List[1].T = 9 },
		func(r *api.Result) { r.List[1].V = 9 },
	} {
		r := whole()
		turn(&r)
		if modl.SameResult(r, whole()) || modl.SameResult(whole(), r) || !modl.SameResult(r, r) {
			t.Fatal(i, show(r))
		}
	}
	if !modl.SameResult(whole(), whole()) || !modl.SameResult(api.Result{}, api.Result{}) {
		t.Fatal("not the same as itself")
	}
}

func Test14_1NilAndNoneAreTheSame(t *testing.T) {
	none := []api.Sample{}
	a := api.Model{Series: []api.Series{{ID: 1}}, Iters: []api.Iter{{ID: 2}}}
	b := api.Model{Series: []api.Series{{ID: 1, List: none}}, Iters: []api.Iter{{ID: 2, Rest: none}}}
	if !modl.Same(a, b) || !modl.Same(b, a) || !modl.Same(api.Model{}, api.Model{Series: []api.Series{}, Iters: []api.Iter{}}) {
		t.Fatal("models")
	}
	if !modl.SameResult(api.Result{}, api.Result{List: none}) || !modl.SameResult(api.Result{List: none}, api.Result{}) {
		t.Fatal("results")
	}
	m := mixer(4)
	for range 2000 {
		o := m.op()
		x, r := modl.Do(a, o)
		y, q := modl.Do(b, o)
		if !alike(x, y) || !alike(r, q) {
			t.Fatal(show(o), show(x), show(y))
		}
	}
}

// filler is what nobody should touch.
var filler = api.Sample{T: -7, V: 7}

// roomy is m with spare room behind each of its lists, filled with what nobody should touch.
func roomy(m api.Model) api.Model {
	m.Series = append(slices.Clone(m.Series), slices.Repeat([]api.Series{{ID: 3, Last: 9}}, 4)...)[:len(m.Series)]
	m.Iters = append(slices.Clone(m.Iters), slices.Repeat([]api.Iter{{ID: 3}}, 4)...)[:len(m.Iters)]
	for i, s := range m.Series {
		m.Series[i].List = append(slices.Clone(s.List), slices.Repeat([]api.Sample{filler}, 4)...)[:len(s.List)]
	}
	for i, x := range m.Iters {
		m.Iters[i].Rest = append(slices.Clone(x.Rest), slices.Repeat([]api.Sample{filler}, 4)...)[:len(x.Rest)]
	}
	return m
}

// whole is m with all the room that its lists have.
func whole(m api.Model) api.Model {
	m.Series, m.Iters = slices.Clone(m.Series[:cap(m.Series)]), slices.Clone(m.Iters[:cap(m.Iters)])
	for i, s := range m.Series {
		m.Series[i].List = slices.Clone(s.List[:cap(s.List)])
	}
	for i, x := range m.Iters {
		m.Iters[i].Rest = slices.Clone(x.Rest[:cap(x.Rest)])
	}
	return m
}

// lists are all the lists of samples that a model and a result have, those behind the ends too.
func lists(m api.Model, r api.Result) [][]api.Sample {
	out := [][]api.Sample{r.List}
	for _, s := range m.Series[:cap(m.Series)] {
		out = append(out, s.List)
	}
	for _, x := range m.Iters[:cap(m.Iters)] {
		out = append(out, x.Rest)
	}
	return out
}

// overwrite writes over all that a list holds, and over the spare room behind it.
func overwrite[T any](l []T, x T) {
	l = l[:cap(l)]
	for i := range l {
		l[i] = x
	}
}

// overwriteAll writes over all that a model and a result hold.
func overwriteAll(m api.Model, r api.Result) {
	for _, l := range lists(m, r) {
		overwrite(l, api.Sample{T: -1, V: top})
	}
	overwrite(m.Series, api.Series{ID: -1})
	overwrite(m.Iters, api.Iter{ID: -1})
}

func Test14_1WhatIsHandedInIsNotChanged(t *testing.T) {
	m := mixer(5)
	for range 5000 {
		x := roomy(m.any())
		was := whole(x)
		modl.Do(x, m.op())
		modl.Do(x, m.likely(int64(m.below(30))))
		modl.Same(x, x)
		if got := whole(x); !alike(got, was) {
			t.Fatalf("changed: %s, not %s", show(got), show(was))
		}
	}
}

func Test14_1WhatIsAnsweredIsNewMemory(t *testing.T) {
	m := mixer(6)
	for range 5000 {
		x := roomy(m.any())
		was, o := whole(x), m.op()
		next, r := modl.Do(x, o)
		again, q := modl.Do(x, o)
		kept, told := clone(again), slices.Clone(q.List)
		overwriteAll(next, r)
		if got := whole(x); !alike(got, was) {
			t.Fatalf("%+v lent: %s, not %s", o, show(got), show(was))
		}
		if !alike(again, kept) || !slices.Equal(q.List, told) {
			t.Fatalf("two answers of %+v share memory", o)
		}
	}
}

func Test14_1WhatIsHandedInIsNotKept(t *testing.T) {
	m := mixer(7)
	for range 5000 {
		x, o := m.any(), m.op()
		want, r := modl.Do(clone(x), o)
		next, q := modl.Do(x, o)
		overwriteAll(x, api.Result{})
		if !alike(next, want) || !alike(q, r) {
			t.Fatalf("%+v kept: %s, not %s", o, show(next), show(want))
		}
	}
}

func Test14_1NoTwoListsOfAnAnswerShareMemory(t *testing.T) {
	m := mixer(8)
	for range 5000 {
		next, r := modl.Do(roomy(m.any()), m.op())
		all := lists(next, r)
		for i, l := range all {
			overwrite(l, api.Sample{T: int64(i), V: uint64(i)})
		}
		for i, l := range all {
			for _, s := range l[:cap(l)] {
				if s.T != int64(i) {
					t.Fatalf("list %d of %s shares memory with list %d", i, show(next), s.T)
				}
			}
		}
	}
}

func Test14_1TwoOpsOnOneModelAreApart(t *testing.T) {
	m := done(t, api.Model{}, appendOp(0, 1, 1), openOp(0, near, far))
	for i := range int64(40) {
		a := done(t, m, appendOp(0, i*10+10, 1), appendOp(3, i, 1))
		b := done(t, m, appendOp(0, i*10+15, 2), appendOp(4, i, 2))
		c := done(t, m, openOp(0, near, far))
		d := done(t, m, openOp(0, 1, 1))
		n := len(m.Series[0].List)
		if a.Series[0].List[n].V != 1 || b.Series[0].List[n].V != 2 || a.Series[1].ID != 3 || b.Series[1].ID != 4 {
			t.Fatal(i, show(a), show(b))
		}
		if len(c.Iters[1].Rest) != n || len(d.Iters[1].Rest) != 1 {
			t.Fatal(i, show(c), show(d))
		}
		m = done(t, a, deleteOp(3))
	}
}

// hand is a model beside its world.
type hand struct {
	model api.Model
	world *world
	count [10]int // how many ops came to each error
}

func newHand() *hand {
	return &hand{world: newWorld()}
}

// do does o in both, and holds them against each other.
func (h *hand) do(t *testing.T, o api.Op) api.Result {
	t.Helper()
	r := h.world.do(o)
	h.count[r.Err]++
	h.model = checkDo(t, h.model, o, h.world.model(), r)
	return r
}

// few are ops of which any row is tried.
var few = []api.Op{
	{Kind: api.OAppend, Series: 1, T: 1, V: 10},
	{Kind: api.OAppend, Series: 1, T: 2, V: 20},
	{Kind: api.OAppend, Series: 0, T: 1, V: 30},
	{Kind: api.ORead, Series: 1, From: 2, To: 9},
	{Kind: api.OSeal, Series: 1},
	{Kind: api.ODelete, Series: 1},
	{Kind: api.OOpen, Series: 1, From: 1, To: 9},
	{Kind: api.ONext, Iter: 1, N: 1},
	{Kind: api.ONext, Iter: 2, N: 2},
	{Kind: api.OClose, Iter: 1},
}

// tryAll does each row of few ops behind those of h that are so many.
func tryAll(t *testing.T, ops []api.Op, left int) {
	h := newHand()
	for i, o := range ops {
		// those ahead were held against each other already
		if i < len(ops)-1 {
			h.world.do(o)
			h.model, _ = modl.Do(h.model, o)
			continue
		}
		h.do(t, o)
	}
	if left == 0 {
		return
	}
	for _, o := range few {
		tryAll(t, append(slices.Clone(ops), o), left-1)
	}
}

func Test14_2EachRowOfFewOps(t *testing.T) {
	tryAll(t, nil, 4)
	tryAll(t, []api.Op{few[0], few[6], few[1], few[6]}, 3)
}

func Test14_2LongRowsOfOps(t *testing.T) {
	m := mixer(9)
	count := [10]int{}
	for range 150 {
		h := newHand()
		for i := range 200 {
			o := m.likely(int64(i))
			if m.below(20) == 0 {
				o = m.op()
			}
			h.do(t, o)
		}
		for i, n := range h.count {
			count[i] += n
		}
	}
	for _, e := range []api.Errno{api.OK, api.ErrOrder, api.ErrSealed, api.ErrNone, api.ErrOp, api.ErrOpen} {
		if count[e] < 100 {
			t.Fatal("too few of a kind were tried", count)
		}
	}
	for _, e := range []api.Errno{api.ErrBusy, api.ErrBad, api.ErrWait, api.ErrFull} {
		if count[e] > 0 {
			t.Fatal("one hand alone has no such error", count)
		}
	}
}

func Test14_2AllKindsOfErrorsAreOfThisLayer(t *testing.T) {
	m := mixer(10)
	for range 20000 {
		if _, r := modl.Do(m.any(), m.op()); r.Err < api.OK || r.Err > api.ErrOpen {
			t.Fatal(r.Err)
		}
	}
}

func Test14_2WhatIsRefusedDoesNothing(t *testing.T) {
	m := mixer(11)
	for range 200 {
		var all, only api.Model
		for i := range 150 {
			o := m.likely(int64(i))
			next, r := modl.Do(all, o)
			all = next
			if r.Err == api.OK {
				after, q := modl.Do(only, o)
				if !alike(r, q) {
					t.Fatalf("%+v answers %s, not %s", o, show(q), show(r))
				}
				only = after
			}
			if !modl.Same(all, only) {
				t.Fatal(show(all), show(only))
			}
		}
	}
}

func Test14_2TheSameOpsDoTheSame(t *testing.T) {
	m := mixer(12)
	for range 100 {
		var ops []api.Op
		for i := range 100 {
			ops = append(ops, m.likely(int64(i)))
		}
		var a, b api.Model
		var r, q []api.Result
		for _, o := range ops {
			next, x := modl.Do(a, o)
			a, r = next, append(r, x)
			// others go on from the same models between
			modl.Do(a, m.op())
		}
		for _, o := range ops {
			next, x := modl.Do(b, o)
			b, q = next, append(q, x)
		}
		if !modl.Same(a, b) || !slices.EqualFunc(r, q, modl.SameResult) {
			t.Fatal(show(a), show(b))
		}
	}
}

// ofOne tells whether o is of this series, and not of an iterator.
func ofOne(o api.Op, series int) bool {
	return slices.Contains(ofSeries, o.Kind) && o.Series == series
}

func Test14_2OneSeriesIsNothingToAnother(t *testing.T) {
	m := mixer(13)
	for range 200 {
		var all, only api.Model
		for i := range 100 {
			o := m.likely(int64(i))
			if o.Kind == api.OOpen {
				o.Kind = api.ORead
			}
			next, r := modl.Do(all, o)
			all = next
			if !ofOne(o, 2) {
				continue
			}
			after, q := modl.Do(only, o)
			only = after
			if !alike(r, q) {
				t.Fatalf("%+v answers %s beside others, %s alone", o, show(r), show(q))
			}
		}
		mine := slices.DeleteFunc(clone(all).Series, func(s api.Series) bool { return s.ID != 2 })
		if !alike(mine, only.Series) {
			t.Fatal(show(all), show(only))
		}
	}
}

func Test14_2ANextAndItsRestAreARead(t *testing.T) {
	m := mixer(14)
	for range 2000 {
		x := done(t, api.Model{}, appendOp(0, near, 1))
		now := int64(-50)
		for range m.below(20) {
			now += 1 + int64(m.below(9))
			x = done(t, x, appendOp(0, now, m.next()))
		}
		from, to := m.time(), m.time()
		_, read := modl.Do(x, readOp(0, from, to))
		x = done(t, x, openOp(0, from, to))
		var told []api.Sample
		for range 30 {
			next, r := modl.Do(x, nextOp(1, m.below(5)))
			told, x = append(told, r.List...), next
			if all := slices.Concat(told, x.Iters[0].Rest); !slices.Equal(all, read.List) {
				t.Fatalf("%v, not %v", all, read.List)
			}
		}
	}
}

func Test14_3NoCallPanics(t *testing.T) {
	m := mixer(15)
	for range 3000 {
		x := m.any()
		for range m.below(20) {
			next, r := modl.Do(x, m.op())
			modl.Same(x, next)
			modl.SameResult(r, api.Result{})
			if r.Err != api.OK && (r.Iter != 0 || len(r.List) > 0 || !alike(next, x)) {
				t.Fatal(show(r), show(next), show(x))
			}
			x = next
		}
	}
	for _, next := range []int{math.MinInt, -1, 0, math.MaxInt - 1, math.MaxInt} {
		for _, id := range []int{math.MinInt, -1, 0, 1, math.MaxInt} {
			x := api.Model{Series: []api.Series{{ID: 15}, {ID: 0}, {ID: 0}, {ID: 99}}, Iters: []api.Iter{{ID: id}, {ID: id}}, Next: next}
			for _, k := range slices.Concat(ofSeries, ofIters) {
				for _, n := range []int{math.MinInt, 0, math.MaxInt} {
					modl.Do(x, api.Op{Kind: k, Series: 15, Iter: id, T: near, V: top, From: far, To: near, N: n})
					modl.Do(x, api.Op{Kind: k, Series: 7, Iter: id, T: far, From: near, To: far, N: n})
				}
			}
		}
	}
}
