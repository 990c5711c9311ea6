package cwnd

import (
	"math"
	"slices"
	"testing"
)

// The chapter's examples.
func TestExamples(t *testing.T) {
	b := newBoth(t, 100)
	b.stands(200, 65536)
	b.full(70)
	b.stands(270, 65536)
	b.full(300)
	b.stands(370, 65536)
	b.ack(50, false)
	b.stands(370, 65536)
	b.loss()
	b.stands(400, 400)
	b.full(300)
	b.stands(500, 400)
	b.full(200)
	b.stands(500, 400)
	b.full(200)
	b.stands(500, 400)
	b.full(200)
	b.stands(600, 400)
	b.full(200)
	b.stands(600, 400)
	b.timeout()
	b.stands(100, 400)
}

// P12.2: an acknowledgement at a size that is at most the threshold.
func TestAckBelow(t *testing.T) {
	for _, c := range []struct{ n, size int }{
		{math.MinInt, 200}, {-1 << 32, 200}, {-1, 200}, {0, 200}, {1, 201}, {2, 202}, {99, 299}, {100, 300}, {101, 300}, {200, 300}, {400, 300},
		{1 << 20, 300}, {1<<30 - 1, 300}, {1 << 30, 300}, {1<<30 + 1, 300}, {1 << 32, 300}, {1<<32 + 5, 300}, {math.MaxInt, 300},
	} {
		b := newBoth(t, 100)
		b.ack(c.n, false)
		b.stands(200, 65536)
		b.ack(c.n, true)
		b.stands(c.size, 65536)
		b.ack(c.n, false)
		b.stands(c.size, 65536)
	}
}

// P12.2: an acknowledgement at a size that is above the threshold: it is greater when the part is the size.
func TestAckAbove(t *testing.T) {
	for _, c := range []struct{ n, size int }{
		{math.MinInt, 401}, {-1 << 32, 401}, {-401, 401}, {-1, 401}, {0, 401}, {1, 401}, {100, 401}, {101, 401}, {400, 401}, {401, 501}, {402, 501}, {802, 501}, {803, 501},
		{1 << 20, 501}, {1<<30 - 1, 501}, {1 << 30, 501}, {1<<30 + 1, 501}, {1 << 32, 501}, {1<<32 + 5, 501}, {math.MaxInt, 501},
	} {
		b := above(t, 100)
		b.ack(c.n, false)
		b.stands(401, 400)
		b.ack(c.n, true)
		b.stands(c.size, 400)
		b.ack(c.n, false)
		b.stands(c.size, 400)
	}
}

// P12.2: when the window was not full nothing is counted to the part, whatever n is; nor if n is below 1.
func TestAckNothing(t *testing.T) {
	b := above(t, 100)
	b.full(400)
	for _, n := range acks(100) {
		b.ack(n, false)
		if n < 1 {
			b.full(n)
		}
		b.stands(401, 400)
	}
	b.full(1)
	b.stands(501, 400) // the part is 0
	for _, n := range acks(100) {
		b.ack(n, false)
	}
	b.full(500)
	b.stands(501, 400)
	b.full(1)
	b.stands(601, 400)
}

// P12.2: sizes below, at, and just above the threshold, at first and behind a loss or a timeout.
func TestThreshold(t *testing.T) {
	for _, mtu := range mtus() {
		first, lost, late := newBoth(t, mtu), newBoth(t, mtu), newBoth(t, mtu)
		lost.rise(20 * mtu)
		lost.loss()
		lost.timeout() // so that there are sizes below the threshold
		late.timeout()
		for _, from := range []*both{first, lost, late} {
			threshold := from.x.Threshold()
			for _, size := range []int{threshold - mtu - 1, threshold - mtu, threshold - 1, threshold} {
				b := from.copy()
				b.rise(size)
				b.copy().full(1)
				b.full(mtu + 1)
				b.stands(size+mtu, threshold)
			}
			b := from.copy()
			b.rise(threshold + 1)
			b.full(mtu + 1)
			b.stands(threshold+1, threshold)
		}
	}
}

// P12.2: what an acknowledgement has beyond the mtu, or beyond the threshold, is no part.
func TestNoPartBelow(t *testing.T) {
	b := newBoth(t, 100)
	b.loss()
	b.full(1 << 30)
	b.stands(500, 400)
	b.full(499)
	b.stands(500, 400)
	b.full(1)
	b.stands(600, 400)
}

// P12.2: a part that comes to one less than the size, to just the size, and to more than it; what is more stays.
func TestPart(t *testing.T) {
	for _, c := range []struct {
		l    []int
		rest int // what makes a size of 501 greater then
	}{
		{[]int{401}, 501}, {[]int{1, 400}, 501}, {[]int{400, 1}, 501}, {[]int{200, 201}, 501}, {[]int{402}, 500}, {[]int{400, 2}, 500},
		{[]int{400, 100}, 402}, {[]int{400, 400}, 102}, {[]int{901}, 1}, {[]int{400, 501}, 1}, {slices.Repeat([]int{1}, 401), 501},
	} {
		b := above(t, 100)
		for i, n := range c.l {
			b.stands(401, 400)
			b.full(n)
			if i < len(c.l)-1 {
				b.stands(401, 400)
			}
		}
		b.stands(501, 400)
		if c.rest > 1 {
			b.full(c.rest - 1)
			b.stands(501, 400)
		}
		b.full(1)
		b.stands(601, 400)
		b.full(600)
		b.stands(601, 400)
		b.full(1)
		b.stands(701, 400)
	}
}

// P12.2: a part of many sizes makes it greater once an acknowledgement, by the size that it had.
func TestPartGreat(t *testing.T) {
	b := above(t, 100)
	b.full(401 + 501 + 601 + 701 - 3) // the last three come one by one
	b.stands(501, 400)
	b.full(1)
	b.stands(601, 400)
	b.ack(1, false)
	b.stands(601, 400)
	b.full(1)
	b.stands(701, 400)
	b.full(0)
	b.stands(701, 400)
	b.full(1)
	b.stands(801, 400)
	b.full(800)
	b.stands(801, 400)
	b.full(1)
	b.stands(901, 400)
}

// P12.2: of more than 2^30 count so many, as the part shows: a small mtu keeps the window from 2^20 till it is gone.
func TestAckMost(t *testing.T) {
	for _, n := range []int{1 << 29, 1<<30 - 70000, 1<<30 - 2, 1<<30 - 1, 1 << 30, 1<<30 + 1, 1<<30 + 2, 1<<30 + 70000, 1 << 31, 1 << 32, 1<<32 + 1, 1 << 62, math.MaxInt - 1, math.MaxInt} {
		b := above(t, 64)
		b.full(n)
		size, part := 321, min(n, 1<<30)-257
		for part+1 >= size {
			part, size = part+1-size, size+64
			b.full(1)
			b.stands(size, 256)
		}
		b.full(size - part - 1)
		b.stands(size, 256)
		b.full(1)
		b.stands(size+64, 256)
	}
}

// P12.2: parts of many times 2^30 are counted whole.
func TestPartMany(t *testing.T) {
	for many := 1; many <= 7; many++ {
		b := above(t, 64)
		b.full(slices.Repeat([]int{1 << 30}, many)...)
		size, part := 257, many<<30
		for range many {
			part, size = part-size, size+64
		}
		b.stands(size, 256)
		for part+1 >= size {
			part, size = part+1-size, size+64
			b.full(1)
			b.stands(size, 256)
		}
		b.full(1)
		b.stands(size, 256)
	}
}

// P12.2, P12.3: a part that is far beyond all sizes leads no further than 2^20, and goes with a timeout.
func TestPartFar(t *testing.T) {
	for _, mtu := range []int{64, 1500} {
		b := above(t, mtu)
		b.full(slices.Repeat([]int{math.MaxInt}, 50000)...)
		b.stands(1<<20, 4*mtu)
		b.timeout()
		b.stands(mtu, 1<<19)
		b.rise(1<<19 + 1)
		b.full(1 << 19)
		b.stands(1<<19+1, 1<<19)
		b.full(1)
		b.stands(1<<19+1+mtu, 1<<19)
	}
}

// P12.2: the size ends at 2^20: steps that come to one below it, just to it, and beyond it.
func TestMost(t *testing.T) {
	for _, mtu := range []int{64, 100, 999, 1500} {
		for _, short := range []int{1, 2, mtu / 2, mtu - 1, mtu, mtu + 1, 2*mtu - 1, 2 * mtu} {
			b := newBoth(t, mtu)
			first := 65536 + 1 + (1<<20-short-65537)%mtu // whole steps lead from here to where the last steps begin
			b.rise(first)
			for b.x.Size() < 1<<20-short {
				b.full(1 << 20)
			}
			b.stands(1<<20-short, 65536)
			for range 3 {
				size := b.x.Size()
				b.full(1 << 20)
				b.stands(min(size+mtu, 1<<20), 65536)
			}
			for _, n := range acks(mtu) {
				b.ack(n, true)
				b.stands(1<<20, 65536)
			}
			b.loss()
			b.stands(1<<19, 1<<19)
			b.full(mtu) // of no part
			b.stands(1<<19+mtu, 1<<19)
			b.full(1<<19 + mtu - 1)
			b.stands(1<<19+mtu, 1<<19)
			b.full(1)
			b.stands(1<<19+2*mtu, 1<<19)
			b.timeout()
			b.stands(mtu, 1<<18+mtu)
		}
	}
}

// P12.2: the same from a size that is at most the threshold: no calls lead there, so the window is laid so.
func TestMostBelow(t *testing.T) {
	for _, mtu := range mtus() {
		for _, short := range []int{0, 1, 2, mtu - 1, mtu, mtu + 1} {
			for _, n := range acks(mtu) {
				x := &Window{mtu: mtu, size: 1<<20 - short, threshold: 1 << 20}
				x.Ack(n, true)
				if want := min(1<<20-short+min(max(n, 0), mtu), 1<<20); x.Size() != want || x.Threshold() != 1<<20 {
					t.Fatalf("mtu %d: Ack %d made Size %d, Threshold %d; want %d", mtu, n, x.Size(), x.Threshold(), want)
				}
			}
		}
	}
}

// P12.2, P12.3: a window that is full at each acknowledgement of all that it may have out, from its beginning up to 2^20.
func TestRiseWhole(t *testing.T) {
	for _, mtu := range []int{64, 65, 1000, 1500} {
		b := newBoth(t, mtu)
		for b.x.Size() <= 65536 {
			size := b.x.Size()
			b.full(size)
			b.stands(size+mtu, 65536)
		}
		for b.x.Size() < 1<<20 {
			size := b.x.Size()
			b.full(size-mtu, mtu-1)
			b.stands(size, 65536)
			b.full(1)
			b.stands(min(size+mtu, 1<<20), 65536)
		}
	}
}
