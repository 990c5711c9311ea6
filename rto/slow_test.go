package rto

import (
	"math"
	"math/rand/v2"
	"testing"

	"lanyard/api"
)

// slow is a timer as the words of the chapter say it, in numbers with a point: none of them is so great that one is rounded.
type slow struct {
	c        api.Config
	samples  []uint64
	s, v     float64
	value    float64
	low, top uint64 // the least and the greatest sample
}

func newSlow(c api.Config) *slow {
	return &slow{c: c, value: float64(c.RtoInit)}
}

func (w *slow) copy() *slow {
	other := *w
	other.samples = append([]uint64(nil), w.samples...)
	return &other
}

func (w *slow) sample(r uint64) {
	if r > 4294967296 {
		r = 4294967296
	}
	if len(w.samples) == 0 {
		w.s, w.v, w.low, w.top = 8*float64(r), 2*float64(r), r, r
	} else {
		d := math.Abs(float64(r) - math.Floor(w.s/8))
		w.v = w.v - math.Floor(w.v/4) + d
		w.s = w.s - math.Floor(w.s/8) + float64(r)
		w.low, w.top = min(w.low, r), max(w.top, r)
	}
	w.samples = append(w.samples, r)
	w.value = math.Floor(w.s / 8)
	if w.v > 1 {
		w.value += w.v
	} else {
		w.value++
	}
	if w.value < float64(w.c.RtoMin) {
		w.value = float64(w.c.RtoMin)
	}
	if w.value > float64(w.c.RtoMax) {
		w.value = float64(w.c.RtoMax)
	}
}

func (w *slow) back() {
	w.value += w.value
	if w.value > float64(w.c.RtoMax) {
		w.value = float64(w.c.RtoMax)
	}
}

func (w *slow) smooth() uint64 {
	if len(w.samples) == 0 {
		return 0
	}
	return uint64(math.Floor(w.s / 8))
}

// both is a timer, and what the words say of it, of which the same is asked.
type both struct {
	t *testing.T
	x *Rto
	w *slow
}

func newBoth(t *testing.T, c api.Config) *both {
	t.Helper()
	x, e := New(c)
	if e != api.OK {
		t.Fatalf("New(%+v): %d", c, e)
	}
	b := &both{t, x, newSlow(c)}
	b.alike()
	return b
}

func (b *both) copy() *both {
	b.t.Helper()
	other := &both{b.t, b.x.Copy(), b.w.copy()}
	other.alike()
	return other
}

// alike holds the timer against the words, and against P11.4.
func (b *both) alike() {
	b.t.Helper()
	value, smooth := b.x.Value(), b.x.Smooth()
	if value != uint64(b.w.value) || smooth != b.w.smooth() {
		b.t.Fatalf("%+v behind %v: Value %d, Smooth %d; want %v, %d", b.w.c, b.w.samples, value, smooth, b.w.value, b.w.smooth())
	}
	if value < uint64(b.w.c.RtoMin) || value > uint64(b.w.c.RtoMax) {
		b.t.Fatalf("%+v behind %v: Value %d", b.w.c, b.w.samples, value)
	}
	if smooth < b.w.low || smooth > b.w.top {
		b.t.Fatalf("%+v behind %v: Smooth %d", b.w.c, b.w.samples, smooth)
	}
}

func (b *both) sample(l ...uint64) {
	b.t.Helper()
	for _, r := range l {
		b.x.Sample(r)
		b.w.sample(r)
		b.alike()
	}
}

func (b *both) back(n int) {
	b.t.Helper()
	for range n {
		before, smooth := b.x.Value(), b.x.Smooth()
		b.x.Back()
		b.w.back()
		b.alike()
		if b.x.Value() < before || b.x.Smooth() != smooth {
			b.t.Fatalf("%+v behind %v: Back made Value %d of %d, Smooth %d of %d", b.w.c, b.w.samples, b.x.Value(), before, b.x.Smooth(), smooth)
		}
	}
}

// edges are samples about the edges.
func edges() []uint64 {
	return []uint64{0, 1, 2, 3, 7, 8, 9, 99, 100, 101, 65535, 65536, 65537, 1<<32 - 1, 1 << 32, 1<<32 + 1, 1 << 33, 1<<61 - 1, 1 << 61, 1<<63 - 1, 1 << 63, math.MaxUint64 - 1, math.MaxUint64}
}

// timers are configurations whose timers are about their edges.
func timers() []api.Config {
	return []api.Config{
		usual(), least(), greatest(), timer(1, 1, 65536), timer(65536, 1, 65536), timer(300, 1, 300), timer(300, 300, 65536),
		timer(50, 10, 400), timer(2, 1, 3), timer(32768, 1, 65536), timer(32769, 1, 65536), timer(32768, 1, 65535), timer(65535, 65535, 65536),
	}
}

// chance is a sample of some size.
func chance(r *rand.Rand) uint64 {
	switch r.IntN(4) {
	case 0:
		return r.Uint64N(10)
	case 1:
		return edges()[r.IntN(len(edges()))]
	}
	return r.Uint64() >> r.IntN(64)
}
