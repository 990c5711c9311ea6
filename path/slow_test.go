package path

import (
	"math"
	"math/rand/v2"
	"slices"
	"testing"

	"lanyard/api"
	"lanyard/cwnd"
	"lanyard/rto"
)

// slow is a path as the words of the chapter say it, with a timer and a window that nobody else asks.
type slow struct {
	c        api.Config
	from, to uint32
	timer    *rto.Rto
	window   *cwnd.Window
	misses   int
	active   bool
	out      []uint32 // the heartbeat that is out, if one is
}

func newSlow(t *testing.T, c api.Config, from, to uint32) *slow {
	t.Helper()
	timer, e := rto.New(c)
	if e != api.OK {
		t.Fatalf("rto.New(%+v): %d", c, e)
	}
	window, e := cwnd.New(c.Mtu)
	if e != api.OK {
		t.Fatalf("cwnd.New(%d): %d", c.Mtu, e)
	}
	return &slow{c, from, to, timer, window, 0, true, nil}
}

func (w *slow) copy() *slow {
	other := *w
	other.timer, other.window, other.out = w.timer.Copy(), w.window.Copy(), slices.Clone(w.out)
	return &other
}

func (w *slow) miss() bool {
	was := w.active
	w.misses++
	if w.misses > int(w.c.PathTries) {
		w.active = false
	}
	return w.active != was
}

func (w *slow) hear() bool {
	was := w.active
	w.misses, w.active = 0, true
	return w.active != was
}

func (w *slow) beat(n uint32) bool {
	was := len(w.out) > 0
	w.out = []uint32{n}
	return was
}

func (w *slow) answer(n uint32) bool {
	is := slices.Contains(w.out, n)
	if is {
		w.out = nil
	}
	return is
}

// both is a path, and what the words say of it, of which the same is asked.
type both struct {
	t       *testing.T
	x       *Path
	w       *slow
	unheard int // misses since it was heard of last
}

func newBoth(t *testing.T, c api.Config, from, to uint32) *both {
	t.Helper()
	b := &both{t, made(t, c, from, to), newSlow(t, c, from, to), 0}
	b.alike()
	return b
}

func made(t *testing.T, c api.Config, from, to uint32) *Path {
	t.Helper()
	x, e := New(c, from, to)
	if e != api.OK || x == nil {
		t.Fatalf("New(%+v, %d, %d): %v, %d", c, from, to, x, e)
	}
	return x
}

func (b *both) copy() *both {
	b.t.Helper()
	other := &both{b.t, b.x.Copy(), b.w.copy(), b.unheard}
	other.alike()
	return other
}

// alike holds the path against the words, and against P13.5; which heartbeat is out is asked of copies.
func (b *both) alike() {
	b.t.Helper()
	stands(b.t, b.x, seen{b.w.from, b.w.to, b.w.active, b.w.misses, b.w.timer.Value(), b.w.window.Size()})
	out(b.t, b.x, b.w.out...)
	if b.x.Active() == (b.unheard > int(b.w.c.PathTries)) {
		b.t.Fatalf("PathTries %d, %d misses since it was heard of: Active %t", b.w.c.PathTries, b.unheard, b.x.Active())
	}
}

// seen is what a path is asked that changes nothing.
type seen struct {
	from, to uint32
	active   bool
	misses   int
	wait     uint64
	size     int
}

func look(x *Path) seen {
	from, to := x.Ends()
	return seen{from, to, x.Active(), x.Misses(), x.Wait(), x.Size()}
}

func stands(t *testing.T, x *Path, want seen) {
	t.Helper()
	if got := look(x); got != want {
		t.Fatalf("%+v, want %+v", got, want)
	}
}

// out holds which heartbeat is out against the one that is wanted, or none.
func out(t *testing.T, x *Path, want ...uint32) {
	t.Helper()
	for _, n := range append(numbers(), want...) {
		if got := x.Copy().Answer(n); got != slices.Contains(want, n) {
			t.Fatalf("Answer(%d): %t, when %v is out", n, got, want)
		}
		if got := x.Copy().Beat(n); got != (len(want) > 0) {
			t.Fatalf("Beat(%d): %t, when %v is out", n, got, want)
		}
	}
}

func (b *both) told(what string, got, want bool) {
	b.t.Helper()
	if got != want {
		b.t.Fatalf("%s: %t, want %t, at %+v", what, got, want, *b.w)
	}
	b.alike()
}

func (b *both) miss() {
	b.t.Helper()
	b.unheard++
	b.told("Miss", b.x.Miss(), b.w.miss())
}

func (b *both) misses(n int) {
	b.t.Helper()
	for range n {
		b.miss()
	}
}

func (b *both) hear() {
	b.t.Helper()
	b.unheard = 0
	b.told("Hear", b.x.Hear(), b.w.hear())
}

func (b *both) beat(n uint32) {
	b.t.Helper()
	b.told("Beat", b.x.Beat(n), b.w.beat(n))
}

func (b *both) answer(n uint32) {
	b.t.Helper()
	b.told("Answer", b.x.Answer(n), b.w.answer(n))
}

func (b *both) sample(l ...uint64) {
	b.t.Helper()
	for _, r := range l {
		b.x.Sample(r)
		b.w.timer.Sample(r)
		b.alike()
	}
}

func (b *both) ack(n int, full bool) {
	b.t.Helper()
	b.x.Ack(n, full)
	b.w.window.Ack(n, full)
	b.alike()
}

func (b *both) full(l ...int) {
	b.t.Helper()
	for _, n := range l {
		b.ack(n, true)
	}
}

func (b *both) loss() {
	b.t.Helper()
	b.x.Loss()
	b.w.window.Loss()
	b.alike()
}

func (b *both) timeout() {
	b.t.Helper()
	b.x.Timeout()
	b.w.timer.Back()
	b.w.window.Timeout()
	b.alike()
}

// numbers are heartbeats at their edges, and some others.
func numbers() []uint32 {
	return []uint32{0, 1, 5, 1<<31 - 1, 1 << 31, math.MaxUint32 - 1, math.MaxUint32}
}

// ends are pairs of addresses at their edges, those that are the same among them.
func ends() [][2]uint32 {
	var l [][2]uint32
	for _, from := range []uint32{0, 1, 7, 1 << 31, math.MaxUint32 - 1, math.MaxUint32} {
		for _, to := range []uint32{0, 1, 8, 1 << 31, math.MaxUint32 - 1, math.MaxUint32} {
			l = append(l, [2]uint32{from, to})
		}
	}
	return l
}

// ticks are samples about their edges.
func ticks() []uint64 {
	return []uint64{0, 1, 10, 33, 34, 200, 300, 2000, 65536, 1<<32 - 1, 1 << 32, 1<<32 + 1, 1 << 63, math.MaxUint64}
}

// acked are acknowledgements about their edges.
func acked(mtu int) []int {
	return []int{math.MinInt, -1 << 32, -mtu, -1, 0, 1, 2, mtu - 1, mtu, mtu + 1, 4 * mtu, 4*mtu + 1, 1 << 20, 1<<30 - 1, 1 << 30, 1<<30 + 1, 1 << 32, math.MaxInt}
}

// aheads are what may have been done to a path, so that each part of it stands otherwise in some of them.
func aheads() []func(*both) {
	return []func(*both){
		func(b *both) {},
		func(b *both) { b.miss() },
		func(b *both) { b.misses(int(b.w.c.PathTries)) },
		func(b *both) { b.misses(int(b.w.c.PathTries) + 1) },
		func(b *both) { b.misses(int(b.w.c.PathTries) + 3); b.beat(0) },
		func(b *both) { b.miss(); b.hear() },
		func(b *both) { b.beat(5) },
		func(b *both) { b.beat(math.MaxUint32); b.sample(500); b.miss() },
		func(b *both) { b.beat(1); b.answer(1) },
		func(b *both) { b.sample(0) },
		func(b *both) { b.sample(20, 90, 1); b.full(1) },
		func(b *both) { b.full(b.w.c.Mtu, b.w.c.Mtu) },
		func(b *both) { b.loss() },
		func(b *both) { b.loss(); b.full(1, 4*b.w.c.Mtu) }, // one below the part that makes the window greater
		func(b *both) { b.timeout() },
		func(b *both) {
			b.timeout()
			b.timeout()
			b.full(b.w.c.Mtu)
			b.sample(70)
			b.beat(9)
			b.misses(2)
		},
	}
}

// acts are things to do to a path.
func acts(c api.Config) []func(*both) {
	return []func(*both){
		(*both).miss, (*both).hear, (*both).loss, (*both).timeout,
		func(b *both) { b.beat(0) },
		func(b *both) { b.beat(5) },
		func(b *both) { b.answer(0) },
		func(b *both) { b.answer(5) },
		func(b *both) { b.sample(0) },
		func(b *both) { b.sample(200) },
		func(b *both) { b.ack(c.Mtu, false) },
		func(b *both) { b.full(1) },
		func(b *both) { b.full(4*c.Mtu + 1) },
	}
}

// chance does something to a path.
func chance(r *rand.Rand, b *both) {
	switch r.IntN(10) {
	case 0, 1, 2:
		b.miss()
	case 3:
		b.hear()
	case 4:
		b.beat(numbers()[r.IntN(len(numbers()))])
	case 5:
		l := append(numbers(), b.w.out...)
		b.answer(l[r.IntN(len(l))])
	case 6:
		b.sample(ticks()[r.IntN(len(ticks()))], r.Uint64()>>r.IntN(64))
	case 7:
		l := acked(b.w.c.Mtu)
		b.ack(l[r.IntN(len(l))], r.IntN(3) > 0)
		b.full(r.IntN(6 * b.w.c.Mtu))
	case 8:
		b.loss()
	default:
		b.timeout()
	}
}
