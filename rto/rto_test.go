package rto

import (
	"math"
	"math/rand/v2"
	"slices"
	"testing"

	"lanyard/api"
)

func made(t *testing.T, c api.Config) *Rto {
	t.Helper()
	x, e := New(c)
	if e != api.OK {
		t.Fatalf("New(%+v): %d", c, e)
	}
	return x
}

func stands(t *testing.T, x *Rto, value, smooth uint64) {
	t.Helper()
	if x.Value() != value || x.Smooth() != smooth {
		t.Fatalf("Value %d, Smooth %d; want %d, %d", x.Value(), x.Smooth(), value, smooth)
	}
}

// P11.2, P11.3: the chapter's examples.
func TestExamples(t *testing.T) {
	x := made(t, usual())
	stands(t, x, 300, 0)
	x.Sample(200)
	stands(t, x, 600, 200)
	x.Sample(200)
	stands(t, x, 500, 200)
	x.Back()
	stands(t, x, 1000, 200)
	x.Back()
	x.Back()
	x.Back()
	stands(t, x, 6000, 200)
	x = made(t, usual())
	x.Sample(10)
	stands(t, x, 100, 10)
}

// Of nil: nothing, 0, nil.
func TestNil(t *testing.T) {
	var x *Rto
	for _, r := range edges() {
		x.Sample(r)
		x.Back()
		stands(t, x, 0, 0)
		if c := x.Copy(); c != nil {
			t.Fatal(c)
		}
	}
}

// P11.2: each New is a timer by itself, and stands at RtoInit.
func TestNewApart(t *testing.T) {
	for _, c := range timers() {
		a, b := made(t, c), made(t, c)
		stands(t, a, uint64(c.RtoInit), 0)
		a.Sample(77777)
		a.Back()
		stands(t, b, uint64(c.RtoInit), 0)
		newBoth(t, c)
	}
}

// P11.2: a timer takes none of the other numbers of a configuration.
func TestNewOthers(t *testing.T) {
	c := usual()
	for _, other := range []api.Config{least(), greatest()} {
		other.RtoInit, other.RtoMin, other.RtoMax = c.RtoInit, c.RtoMin, c.RtoMax
		a, b := newBoth(t, c), newBoth(t, other)
		for _, r := range []uint64{0, 10, 2000, 1, 300, 1 << 40, 7} {
			a.sample(r)
			b.sample(r)
			a.back(1)
			b.back(1)
			stands(t, b.x, a.x.Value(), a.x.Smooth())
		}
	}
}

// P11.2: Smooth is 0 without a sample, however far it was backed off.
func TestSmoothNone(t *testing.T) {
	for _, c := range timers() {
		b := newBoth(t, c)
		for range 20 {
			b.back(1)
			if b.x.Smooth() != 0 {
				t.Fatal(b.x.Smooth())
			}
		}
		b.sample(5)
		stands(t, b.x, min(max(15, uint64(c.RtoMin)), uint64(c.RtoMax)), 5) // 5 and 10, as without backing off
	}
}

// P11.2: a copy stands so, and each goes its own way.
func TestCopy(t *testing.T) {
	aheads := []func(*both){
		func(b *both) {},
		func(b *both) { b.back(1) },
		func(b *both) { b.back(30) },
		func(b *both) { b.sample(0) },
		func(b *both) { b.sample(0, 0) },
		func(b *both) { b.sample(500) },
		func(b *both) { b.sample(500, 20, 1) },
		func(b *both) { b.sample(500); b.back(1) },
		func(b *both) { b.sample(1<<32, 3); b.back(40) },
	}
	ways := []func(*both){
		func(b *both) {},
		func(b *both) { b.back(1) },
		func(b *both) { b.sample(0) },
		func(b *both) { b.sample(700) },
		func(b *both) { b.sample(9, 90, 900); b.back(2); b.sample(0) },
	}
	for _, c := range timers() {
		for _, ahead := range aheads {
			for _, way := range ways {
				for _, other := range ways {
					a := newBoth(t, c)
					ahead(a)
					b := a.copy()
					way(a)
					b.alike()
					other(b)
					a.alike()
					d := a.copy()
					way(b)
					other(d)
					a.alike()
					other(a)
					b.alike()
					d.alike()
				}
			}
		}
	}
}

// P11.3: the first sample, at the edges.
func TestSampleFirst(t *testing.T) {
	for _, c := range []struct{ r, value, smooth uint64 }{
		{0, 1, 0}, {1, 3, 1}, {2, 6, 2}, {3, 9, 3}, {10, 30, 10}, {21845, 65535, 21845}, {21846, 65536, 21846}, {65536, 65536, 65536},
		{1<<32 - 1, 65536, 1<<32 - 1}, {1 << 32, 65536, 1 << 32}, {1<<32 + 1, 65536, 1 << 32}, {1 << 33, 65536, 1 << 32},
		{1 << 61, 65536, 1 << 32}, {1 << 63, 65536, 1 << 32}, {math.MaxUint64, 65536, 1 << 32},
	} {
		b := newBoth(t, timer(10, 1, 65536))
		b.sample(c.r)
		stands(t, b.x, c.value, c.smooth)
	}
}

// P11.3: further samples below, at and above the smoothed one; points that are left out.
func TestSampleFurther(t *testing.T) {
	for _, c := range []struct {
		first, r, value, smooth uint64
	}{
		{100, 100, 250, 100}, // s 800, v 150
		{100, 108, 259, 101}, // s 808, v 158
		{100, 107, 257, 100}, // s 807, v 157
		{100, 92, 257, 99},   // s 792, v 158
		{100, 93, 256, 99},   // s 793, v 157
		{100, 99, 250, 99},   // s 799, v 151
		{100, 101, 251, 100}, // s 801, v 151
		{100, 0, 337, 87},    // s 700, v 250
		{0, 0, 1, 0},         // s 0, v 0
		{0, 1, 1, 0},         // s 1, v 1
		{0, 2, 2, 0},         // s 2, v 2
		{0, 7, 7, 0},         // s 7, v 7
		{0, 8, 9, 1},         // s 8, v 8
		{0, 100, 112, 12},    // s 100, v 100: no first sample, though all is 0
		{1, 1, 3, 1},         // s 8, v 2: a quarter of 2 is none
		{1, 0, 3, 0},         // s 7, v 3
		{2, 2, 5, 2},         // s 16, v 3: a quarter of 4 is 1
		{3, 3, 8, 3},         // s 24, v 5: a quarter of 6 is 1
	} {
		b := newBoth(t, timer(10, 1, 65536))
		b.sample(c.first, c.r)
		stands(t, b.x, c.value, c.smooth)
	}
}

// P11.3: a third sample is off from s / 8 without its point.
func TestSampleThird(t *testing.T) {
	for _, c := range []struct {
		second, third, value, smooth uint64
	}{
		{107, 100, 218, 100}, // s 807, v 157; then s 807, v 118
		{107, 101, 220, 101}, // then s 808, v 119
		{93, 99, 217, 99},    // s 793, v 157; then s 793, v 118
		{93, 100, 218, 99},   // then s 794, v 119
	} {
		b := newBoth(t, timer(10, 1, 65536))
		b.sample(100, c.second, c.third)
		stands(t, b.x, c.value, c.smooth)
	}
}

// P11.3: of more than 2^32 counts 2^32, as a further sample too.
func TestSampleGreat(t *testing.T) {
	for _, c := range []struct{ first, r, smooth uint64 }{
		{0, 1<<32 - 8, 1<<29 - 1}, {0, 1<<32 - 1, 1<<29 - 1}, {0, 1 << 32, 1 << 29}, {0, 1<<32 + 8, 1 << 29}, {0, 1 << 40, 1 << 29}, {0, math.MaxUint64, 1 << 29},
		{math.MaxUint64, 0, 7 << 29}, {1<<32 + 8, 0, 7 << 29}, {1 << 32, 0, 7 << 29}, {1<<32 - 8, 0, 7<<29 - 7},
		{1 << 32, math.MaxUint64, 1 << 32}, {math.MaxUint64, math.MaxUint64, 1 << 32},
	} {
		b := newBoth(t, usual())
		b.sample(c.first, c.r)
		stands(t, b.x, 6000, c.smooth)
	}
	for _, great := range []uint64{1<<32 - 1, 1 << 32, 1<<32 + 1, 1 << 63, math.MaxUint64} {
		b := newBoth(t, timer(10, 1, 65536))
		b.sample(great)
		b.sample(slices.Repeat([]uint64{1}, 200)...) // until what it left is seen in the value
		b.sample(great)
		b.sample(slices.Repeat([]uint64{0}, 200)...)
	}
}

// P11.3: values below RtoMin and above RtoMax, and just at them.
func TestSampleBounds(t *testing.T) {
	for _, c := range []struct {
		low, high uint32
		r, value  uint64
	}{
		{100, 6000, 0, 100}, {100, 6000, 33, 100}, {100, 6000, 34, 102}, {99, 6000, 33, 99}, {98, 6000, 33, 99},
		{100, 6000, 1999, 5997}, {100, 6000, 2000, 6000}, {100, 6000, 2001, 6000}, {100, 6001, 2001, 6001}, {100, 6003, 2001, 6003}, {100, 6004, 2001, 6003},
		{300, 300, 0, 300}, {300, 300, 100, 300}, {300, 300, 1000, 300}, {1, 300, 0, 1}, {2, 300, 0, 2}, {1, 65536, 1 << 40, 65536},
	} {
		b := newBoth(t, timer(max(c.low, min(c.high, 300)), c.low, c.high))
		b.sample(c.r)
		stands(t, b.x, c.value, min(c.r, 1<<32))
		b.sample(c.r) // what the bounds cut off is not cut off of the numbers
	}
}

// P11.3: backing off ahead of the samples, at RtoMax, near it, and up to it.
func TestBack(t *testing.T) {
	for _, c := range []struct {
		first, high uint32
		l           []uint64
	}{
		{300, 6000, []uint64{600, 1200, 2400, 4800, 6000, 6000}},
		{1, 65536, []uint64{2, 4, 8, 16, 32, 64, 128, 256, 512, 1024, 2048, 4096, 8192, 16384, 32768, 65536, 65536}},
		{3000, 6000, []uint64{6000, 6000}}, {2999, 6000, []uint64{5998, 6000}}, {3001, 6000, []uint64{6000}}, {3000, 6001, []uint64{6000, 6001, 6001}},
		{5999, 6000, []uint64{6000, 6000}}, {6000, 6000, []uint64{6000, 6000}},
		{32768, 65536, []uint64{65536}}, {32767, 65536, []uint64{65534, 65536}}, {32769, 65536, []uint64{65536}}, {65536, 65536, []uint64{65536}},
		{1, 1, []uint64{1, 1}}, {1, 2, []uint64{2, 2}}, {1, 3, []uint64{2, 3, 3}},
	} {
		b := newBoth(t, timer(c.first, 1, c.high))
		for _, value := range c.l {
			b.back(1)
			stands(t, b.x, value, 0)
		}
		b.back(100)
	}
}

// P11.3: a sample's value takes the place of one that was backed off, and is backed off then.
func TestBackBetween(t *testing.T) {
	b := newBoth(t, usual())
	b.back(3)
	stands(t, b.x, 2400, 0)
	b.sample(100)
	stands(t, b.x, 300, 100)
	b.back(1)
	stands(t, b.x, 600, 100)
	b.sample(100)
	stands(t, b.x, 250, 100)
	b.back(100)
	stands(t, b.x, 6000, 100)
	b.sample(100)
	stands(t, b.x, 213, 100)
}

// P11.3: backing off changes nothing of what further samples make.
func TestBackLeaves(t *testing.T) {
	for _, c := range timers() {
		a, b := newBoth(t, c), newBoth(t, c)
		for i, r := range []uint64{500, 0, 77, 12, 30000, 1, 1, 1 << 33, 5} {
			a.sample(r)
			b.back(i % 4)
			b.sample(r)
			stands(t, b.x, a.x.Value(), a.x.Smooth())
		}
	}
}

// P11.2, P11.3, P11.4: all rows of samples out of a few, with backing off in between.
func TestRows(t *testing.T) {
	few := []uint64{0, 1, 2, 5, 8, 13, 64, 1 << 33}
	var rows func(*both, int)
	rows = func(b *both, left int) {
		if left == 0 {
			return
		}
		for _, r := range few {
			next := b.copy()
			next.sample(r)
			rows(next, left-1)
		}
		next := b.copy()
		next.back(1)
		rows(next, left-1)
	}
	rows(newBoth(t, timer(10, 1, 65536)), 5)
	rows(newBoth(t, timer(10, 5, 40)), 4)
}

// P11.2, P11.3, P11.4: pairs and triples of samples about all edges, at all edges of a timer's bounds.
func TestEdges(t *testing.T) {
	for _, c := range timers() {
		for _, one := range edges() {
			for _, two := range edges() {
				b := newBoth(t, c)
				b.sample(one, two)
				for _, three := range edges() {
					b.copy().sample(three)
				}
				b.back(20)
			}
		}
	}
}

// P11.2, P11.3, P11.4: timers by chance.
func TestChance(t *testing.T) {
	r := rand.New(rand.NewPCG(11, 1))
	for range 3000 {
		low := 1 + r.Uint32N(1<<r.IntN(17))
		first := low + r.Uint32N(65537-low)
		high := first + r.Uint32N(65537-first)
		b := newBoth(t, timer(first, low, high))
		for range 1 + r.IntN(60) {
			switch r.IntN(4) {
			case 0:
				b.back(1)
			case 1:
				if r.IntN(4) == 0 {
					b = b.copy()
				}
			default:
				b.sample(chance(r))
			}
		}
	}
}

// settled holds a timer against P11.4's last sentence, behind 400 samples r.
func settled(t *testing.T, b *both, r uint64) {
	t.Helper()
	for range 400 {
		b.sample(r)
	}
	for range 3 { // and from then on
		low, high := uint64(b.w.c.RtoMin), uint64(b.w.c.RtoMax)
		n := min(r, 1<<32)
		if v := b.x.Value(); v < min(max(n, low), high) || v > min(max(n+10, low), high) {
			t.Fatalf("%+v: Value %d behind 400 samples %d", b.w.c, v, r)
		}
		if b.x.Smooth() != n {
			t.Fatalf("%+v: Smooth %d behind 400 samples %d", b.w.c, b.x.Smooth(), r)
		}
		b.sample(r)
	}
}

// P11.4: behind 400 samples that are alike the value is that one, or a little more, whatever was ahead.
func TestAlike(t *testing.T) {
	aheads := []func(*both){
		func(b *both) {},
		func(b *both) { b.back(20) },
		func(b *both) { b.sample(0) },
		func(b *both) { b.sample(1 << 32) },
		func(b *both) { b.sample(math.MaxUint64); b.back(20) },
		func(b *both) { b.sample(0, 1<<32, 0, 1<<32, 0, 1<<32) },
		func(b *both) { b.sample(1<<32, 0, 1<<32, 0, 1<<32, 0) },
		func(b *both) {
			for i := range uint64(300) {
				b.sample(i%2<<32, 3*i)
			}
		},
	}
	for _, c := range timers() {
		for _, ahead := range aheads {
			for _, r := range edges() {
				b := newBoth(t, c)
				ahead(b)
				settled(t, b, r)
			}
		}
	}
}

// P11.4: the same, behind rows by chance.
func TestAlikeChance(t *testing.T) {
	r := rand.New(rand.NewPCG(11, 4))
	for range 300 {
		b := newBoth(t, timers()[r.IntN(len(timers()))])
		for range 10 {
			for range r.IntN(20) {
				b.sample(chance(r))
				b.back(r.IntN(3))
			}
			settled(t, b, chance(r))
		}
	}
}
