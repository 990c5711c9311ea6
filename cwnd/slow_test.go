package cwnd

import (
	"math"
	"math/rand/v2"
	"testing"

	"lanyard/api"
)

// slow is a window as the words of the chapter say it, in numbers with a point: none of them is so great that one is rounded.
type slow struct {
	mtu, size, threshold, part float64
}

func newSlow(mtu int) slow {
	return slow{mtu: float64(mtu), size: 2 * float64(mtu), threshold: 65536}
}

func (w *slow) ack(n int, full bool) {
	counts := float64(n)
	if counts > 1073741824 {
		counts = 1073741824
	}
	if !full || counts < 1 {
		return
	}
	if w.size <= w.threshold {
		if counts > w.mtu {
			counts = w.mtu
		}
		w.size += counts
	} else {
		w.part += counts
		if w.part >= w.size {
			w.part -= w.size
			w.size += w.mtu
		}
	}
	if w.size > 1048576 {
		w.size = 1048576
	}
}

func (w *slow) half() {
	w.threshold = math.Floor(w.size / 2)
	if w.threshold < 4*w.mtu {
		w.threshold = 4 * w.mtu
	}
	w.part = 0
}

func (w *slow) loss() {
	w.half()
	w.size = w.threshold
}

func (w *slow) timeout() {
	w.half()
	w.size = w.mtu
}

// both is a window, and what the words say of it, of which the same is asked.
type both struct {
	t   *testing.T
	mtu int
	x   *Window
	w   slow
}

func newBoth(t *testing.T, mtu int) *both {
	t.Helper()
	b := &both{t, mtu, made(t, mtu), newSlow(mtu)}
	b.alike()
	return b
}

func made(t *testing.T, mtu int) *Window {
	t.Helper()
	x, e := New(mtu)
	if e != api.OK || x == nil {
		t.Fatalf("New(%d): %v, %d", mtu, x, e)
	}
	return x
}

func (b *both) copy() *both {
	b.t.Helper()
	other := &both{b.t, b.mtu, b.x.Copy(), b.w}
	other.alike()
	return other
}

// alike holds the window against the words, and against the bounds of P12.3.
func (b *both) alike() {
	b.t.Helper()
	size, threshold := b.x.Size(), b.x.Threshold()
	if size != int(b.w.size) || threshold != int(b.w.threshold) {
		b.t.Fatalf("mtu %d: Size %d, Threshold %d; want %+v", b.mtu, size, threshold, b.w)
	}
	if size < b.mtu || size > 1<<20 {
		b.t.Fatalf("mtu %d: Size %d", b.mtu, size)
	}
}

func (b *both) stands(size, threshold int) {
	b.t.Helper()
	if b.x.Size() != size || b.x.Threshold() != threshold {
		b.t.Fatalf("mtu %d: Size %d, Threshold %d; want %d, %d", b.mtu, b.x.Size(), b.x.Threshold(), size, threshold)
	}
}

func (b *both) ack(n int, full bool) {
	b.t.Helper()
	size, threshold := b.x.Size(), b.x.Threshold()
	b.x.Ack(n, full)
	b.w.ack(n, full)
	b.alike()
	if b.x.Size() < size || b.x.Size() > size+b.mtu || b.x.Threshold() != threshold {
		b.t.Fatalf("mtu %d: Ack %d, %t made Size %d of %d, Threshold %d of %d", b.mtu, n, full, b.x.Size(), size, b.x.Threshold(), threshold)
	}
}

func (b *both) full(l ...int) {
	b.t.Helper()
	for _, n := range l {
		b.ack(n, true)
	}
}

func (b *both) loss() {
	b.t.Helper()
	size := b.x.Size()
	b.x.Loss()
	b.w.loss()
	b.alike()
	if b.x.Size() < size/2 || b.x.Size() > b.x.Threshold() {
		b.t.Fatalf("mtu %d: Loss made Size %d of %d, Threshold %d", b.mtu, b.x.Size(), size, b.x.Threshold())
	}
}

func (b *both) timeout() {
	b.t.Helper()
	b.x.Timeout()
	b.w.timeout()
	b.alike()
	if b.x.Size() > b.x.Threshold() {
		b.t.Fatalf("mtu %d: Timeout made Size %d, Threshold %d", b.mtu, b.x.Size(), b.x.Threshold())
	}
}

// rise acknowledges up to the size, which is at most an mtu above the threshold: the short step goes first.
func (b *both) rise(size int) {
	b.t.Helper()
	b.full((size - b.x.Size()) % b.mtu)
	for b.x.Size() < size {
		b.full(b.mtu)
	}
	b.stands(size, b.x.Threshold())
}

// above is a window whose size is one above the threshold, both as small as may be, with no part.
func above(t *testing.T, mtu int) *both {
	t.Helper()
	b := newBoth(t, mtu)
	b.loss()
	b.full(1)
	b.stands(4*mtu+1, 4*mtu)
	return b
}

// mtus are those at their edges, and some that are odd.
func mtus() []int {
	return []int{64, 65, 100, 127, 128, 255, 256, 999, 1000, 1499, 1500}
}

// acks are numbers about the edges of an acknowledgement.
func acks(mtu int) []int {
	return []int{
		math.MinInt, math.MinInt + 1, -1 << 32, -1 << 31, -1<<30 - 1, -1 << 30, -mtu, -2, -1, 0, 1, 2, mtu - 1, mtu, mtu + 1, 2 * mtu, 4*mtu - 1, 4 * mtu, 4*mtu + 1,
		1<<20 - 1, 1 << 20, 1<<20 + 1, 1<<30 - 1, 1 << 30, 1<<30 + 1, 1<<31 - 1, 1 << 31, 1 << 32, 1<<32 + 1, 1 << 62, math.MaxInt - 1, math.MaxInt,
	}
}

// chance is an acknowledgement of some size.
func chance(r *rand.Rand, mtu int) int {
	switch r.IntN(6) {
	case 0:
		l := acks(mtu)
		return l[r.IntN(len(l))]
	case 1:
		return int(r.Uint64() >> r.IntN(64))
	}
	return r.IntN(4 * mtu)
}
