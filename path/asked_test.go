package path

import (
	"math"
	"math/rand/v2"
	"testing"

	"lanyard/api"
)

// P13.4: what a Sample does to the timer's value, in numbers; the rest stays.
func TestSample(t *testing.T) {
	for _, c := range []struct {
		l    []uint64
		wait uint64
	}{
		{nil, 300}, {[]uint64{0}, 100}, {[]uint64{10}, 100}, {[]uint64{33}, 100}, {[]uint64{34}, 102}, {[]uint64{200}, 600}, {[]uint64{200, 200}, 500},
		{[]uint64{1999}, 5997}, {[]uint64{2000}, 6000}, {[]uint64{2001}, 6000}, {[]uint64{1 << 32}, 6000}, {[]uint64{math.MaxUint64}, 6000},
		{[]uint64{100, 0}, 337}, {[]uint64{100, 107, 101}, 220}, {[]uint64{0, 100}, 112}, // smoothed, and how far off
	} {
		b := newBoth(t, usual(), 7, 8)
		b.beat(5)
		b.miss()
		b.sample(c.l...)
		stands(t, b.x, seen{7, 8, true, 1, c.wait, 512})
		out(t, b.x, 5)
	}
}

// P13.4: what an Ack does to the window's size, in numbers; the rest stays.
func TestAck(t *testing.T) {
	for _, c := range []struct{ n, size int }{
		{math.MinInt, 512}, {-1, 512}, {0, 512}, {1, 513}, {2, 514}, {255, 767}, {256, 768}, {257, 768}, {512, 768}, {1 << 30, 768}, {1<<32 + 1, 768}, {math.MaxInt, 768},
	} {
		b := newBoth(t, usual(), 7, 8)
		b.beat(5)
		b.miss()
		b.ack(c.n, false)
		stands(t, b.x, seen{7, 8, true, 1, 300, 512})
		b.ack(c.n, true)
		stands(t, b.x, seen{7, 8, true, 1, 300, c.size})
		b.ack(c.n, false)
		stands(t, b.x, seen{7, 8, true, 1, 300, c.size})
		out(t, b.x, 5)
	}
}

// P13.4: what a Loss does to the window, in numbers; the timer does not back off, and the rest stays.
func TestLoss(t *testing.T) {
	b := newBoth(t, usual(), 7, 8)
	b.beat(5)
	b.miss()
	b.loss()
	stands(t, b.x, seen{7, 8, true, 1, 300, 1024}) // four packets
	b.full(256)
	stands(t, b.x, seen{7, 8, true, 1, 300, 1280}) // above the threshold by then
	b.full(1279)
	stands(t, b.x, seen{7, 8, true, 1, 300, 1280})
	b.full(1)
	stands(t, b.x, seen{7, 8, true, 1, 300, 1536})
	b.full(1536, 1792, 2048)
	stands(t, b.x, seen{7, 8, true, 1, 300, 2304})
	b.full(2303)
	b.loss()
	stands(t, b.x, seen{7, 8, true, 1, 300, 1152}) // half of it
	b.full(1)
	b.full(1)
	stands(t, b.x, seen{7, 8, true, 1, 300, 1153})
	out(t, b.x, 5)
}

// P13.4: what a Timeout does to both, in numbers; it is no miss, and the rest stays.
func TestTimeout(t *testing.T) {
	b := newBoth(t, usual(), 7, 8)
	b.beat(5)
	b.miss()
	for _, wait := range []uint64{600, 1200, 2400, 4800, 6000, 6000} {
		b.timeout()
		stands(t, b.x, seen{7, 8, true, 1, wait, 256})
	}
	for _, size := range []int{512, 768, 1024, 1280} {
		b.full(256)
		stands(t, b.x, seen{7, 8, true, 1, 6000, size})
	}
	b.full(1279)
	stands(t, b.x, seen{7, 8, true, 1, 6000, 1280}) // the threshold is four packets
	b.full(1)
	stands(t, b.x, seen{7, 8, true, 1, 6000, 1536})
	b.sample(200)
	stands(t, b.x, seen{7, 8, true, 1, 600, 1536})
	b.timeout()
	stands(t, b.x, seen{7, 8, true, 1, 1200, 256})
	b.sample(200)
	stands(t, b.x, seen{7, 8, true, 1, 500, 256}) // backing off left the samples
	out(t, b.x, 5)
}

// P13.4: a Timeout of a window that is great leaves half of it as its threshold, as one Timeout of the window does.
func TestTimeoutGreat(t *testing.T) {
	b := newBoth(t, usual(), 7, 8)
	for b.x.Size() < 6144 {
		b.full(256)
	}
	b.timeout()
	stands(t, b.x, seen{7, 8, true, 0, 600, 256})
	for size := 512; size <= 3328; size += 256 {
		b.full(256)
		stands(t, b.x, seen{7, 8, true, 0, 600, size})
	}
	b.full(3327)
	stands(t, b.x, seen{7, 8, true, 0, 600, 3328}) // above the threshold by then, which is 3072
	b.full(1)
	stands(t, b.x, seen{7, 8, true, 0, 600, 3584})
}

// P13.4: what a great sample leaves in the timer is seen behind many small ones.
func TestSampleGreat(t *testing.T) {
	for _, great := range []uint64{1 << 30, 1 << 31, 1<<32 - 1, 1 << 32, 1<<32 + 1, 1 << 63, math.MaxUint64} {
		b := newBoth(t, usual(), 7, 8)
		b.sample(great)
		for range 300 {
			b.sample(1)
		}
		b.sample(great)
		for range 300 {
			b.sample(0)
		}
	}
}

// P13.4: so many timeouts that a miss for each would have made it inactive.
func TestTimeoutMany(t *testing.T) {
	for _, c := range []api.Config{usual(), least(), greatest(), odd()} {
		b := newBoth(t, c, 7, 8)
		for range 300 {
			b.timeout()
			b.loss()
		}
		stands(t, b.x, seen{7, 8, true, 0, uint64(c.RtoMax), 4 * c.Mtu})
		b.misses(int(c.PathTries) + 1)
		b.sample(5)
		b.full(1)
		stands(t, b.x, seen{7, 8, false, int(c.PathTries) + 1, min(max(15, uint64(c.RtoMin)), uint64(c.RtoMax)), 4*c.Mtu + 1}) // nor is one of them a hearing
	}
}

// P13.4: each of the four, behind whatever was ahead, changes nothing but its own part.
func TestAskedLeaves(t *testing.T) {
	for _, c := range []api.Config{usual(), least(), greatest(), odd()} {
		for _, ahead := range aheads() {
			leaves := func(act func(*both), wait, size bool) {
				t.Helper()
				b := newBoth(t, c, 7, 8)
				ahead(b)
				was := look(b.x)
				act(b)
				if wait {
					was.wait = b.x.Wait()
				}
				if size {
					was.size = b.x.Size()
				}
				stands(t, b.x, was)
			}
			for _, r := range ticks() {
				leaves(func(b *both) { b.sample(r) }, true, false)
			}
			for _, n := range acked(c.Mtu) {
				leaves(func(b *both) { b.full(n) }, false, true)
				leaves(func(b *both) { b.ack(n, false) }, false, false)
			}
			leaves((*both).loss, false, true)
			leaves((*both).timeout, true, true)
		}
	}
}

// P13.1 to P13.4: all rows of four acts, with a long one behind, by which what is not seen at once is seen.
func TestRows(t *testing.T) {
	var rows func(*both, []func(*both), int)
	rows = func(b *both, l []func(*both), left int) {
		if left == 0 {
			b.full(4*b.w.c.Mtu, 1)
			b.sample(90)
			b.timeout()
			b.misses(2)
			return
		}
		for _, act := range l {
			next := b.copy()
			act(next)
			rows(next, l, left-1)
		}
	}
	for _, c := range []api.Config{usual(), trying(1), odd()} {
		rows(newBoth(t, c, 7, 8), acts(c), 4)
	}
}

// P13.1 to P13.5: paths by chance.
func TestChance(t *testing.T) {
	r := rand.New(rand.NewPCG(13, 4))
	for range 2000 {
		c := [4]api.Config{usual(), least(), greatest(), odd()}[r.IntN(4)]
		c.PathTries = uint8(1 + r.IntN(min(255, 1<<r.IntN(9))))
		b := newBoth(t, c, r.Uint32(), r.Uint32())
		for range 100 {
			if r.IntN(8) == 0 {
				b = b.copy()
			}
			chance(r, b)
		}
	}
}
