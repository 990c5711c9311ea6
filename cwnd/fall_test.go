package cwnd

import (
	"math/rand/v2"
	"testing"
)

// P12.2: a loss and a timeout at sizes whose half is below, at and above four times the mtu, odd ones among them.
func TestFall(t *testing.T) {
	for _, c := range []struct{ size, threshold int }{
		{200, 400}, {201, 400}, {399, 400}, {400, 400}, {401, 400}, {600, 400}, {798, 400}, {799, 400}, {800, 400}, {801, 400}, {802, 401}, {803, 401}, {804, 402},
		{1000, 500}, {1001, 500}, {1601, 800}, {65535, 32767}, {65536, 32768}, {65537, 32768}, {65635, 32817}, {65636, 32818},
	} {
		b := newBoth(t, 100)
		b.rise(c.size)
		d := b.copy()
		b.loss()
		b.stands(c.threshold, c.threshold)
		d.timeout()
		d.stands(100, c.threshold)
	}
}

// P12.2: the same about eight times every mtu.
func TestFallMtus(t *testing.T) {
	for mtu := 64; mtu <= 1500; mtu++ {
		for off := -2; off <= 3; off++ {
			b := newBoth(t, mtu)
			b.rise(8*mtu + off)
			d := b.copy()
			threshold := 4*mtu + max(off, 0)/2
			b.loss()
			b.stands(threshold, threshold)
			d.timeout()
			d.stands(mtu, threshold)
		}
	}
}

// P12.2: at the size that a window has at first.
func TestFallFirst(t *testing.T) {
	for mtu := 64; mtu <= 1500; mtu++ {
		b := newBoth(t, mtu)
		b.loss()
		b.stands(4*mtu, 4*mtu)
		d := newBoth(t, mtu)
		d.timeout()
		d.stands(mtu, 4*mtu)
	}
}

// P12.2: losses and timeouts one behind the other: each halves what there is, not the threshold ahead of it.
func TestFallAgain(t *testing.T) {
	b := newBoth(t, 100)
	b.rise(6000)
	b.loss()
	b.stands(3000, 3000)
	b.loss()
	b.stands(1500, 1500)
	b.loss()
	b.stands(750, 750)
	b.loss()
	b.stands(400, 400)
	b.loss()
	b.stands(400, 400)
	b.timeout()
	b.stands(100, 400)
	b.rise(401)
	b.timeout()
	b.stands(100, 400)
	b.timeout()
	b.stands(100, 400)
	b = newBoth(t, 100)
	b.rise(6000)
	b.timeout()
	b.stands(100, 3000)
	b.full(100)
	b.stands(200, 3000)
	b.timeout()
	b.stands(100, 400)
	b.loss()
	b.stands(400, 400)
}

// P12.2: above the threshold, where many steps led to the size.
func TestFallAbove(t *testing.T) {
	b := above(t, 100)
	for b.x.Size() < 1301 {
		b.full(1500)
	}
	d := b.copy()
	b.loss()
	b.stands(650, 650)
	d.timeout()
	d.stands(100, 650)
}

// P12.2: the part that a loss or a timeout comes upon is let go.
func TestFallPart(t *testing.T) {
	for _, part := range []int{1, 100, 399, 400, 1 << 20, 1 << 30} {
		for _, fall := range []func(*both){(*both).loss, (*both).timeout} {
			b := above(t, 100)
			b.full(part)
			if part > 400 {
				b.full(1)
			}
			for range 2 {
				fall(b)
				b.rise(b.x.Threshold())
				b.full(1)
				size, threshold := b.x.Size(), b.x.Threshold()
				b.full(size - 1)
				b.stands(size, threshold)
				b.full(1)
				b.stands(size+100, threshold)
				b.full(size + 99)
				b.stands(size+100, threshold)
			}
		}
	}
}

// P12.2: the threshold is asked at each acknowledgement behind a loss or a timeout: below it the size is greater by n again.
func TestFallThenRise(t *testing.T) {
	b := newBoth(t, 100)
	b.rise(2000)
	b.timeout()
	b.stands(100, 1000)
	b.full(30)
	b.stands(130, 1000)
	b.full(500)
	b.stands(230, 1000)
	b.rise(1000)
	b.full(1)
	b.stands(1001, 1000)
	b.full(1000)
	b.stands(1001, 1000)
	b.loss()
	b.stands(500, 500)
	b.full(1)
	b.stands(501, 500)
	b.full(500)
	b.stands(501, 500)
	b.full(1)
	b.stands(601, 500)
}

// acts are the acts that rows are made of.
func acts(mtu int) []func(*both) {
	l := []func(*both){(*both).loss, (*both).timeout, func(b *both) { b.ack(mtu, false) }}
	for _, n := range []int{0, 1, mtu - 1, mtu + 1, 4*mtu + 1, 1<<30 + 1} {
		l = append(l, func(b *both) { b.full(n) })
	}
	return l
}

// P12.1, P12.2, P12.3: all rows of five acts out of a few, from the first size and from above the threshold.
func TestRows(t *testing.T) {
	var rows func(*both, []func(*both), int)
	rows = func(b *both, l []func(*both), depth int) {
		if depth == 0 {
			return
		}
		for _, act := range l {
			next := b.copy()
			act(next)
			rows(next, l, depth-1)
		}
	}
	for _, mtu := range []int{64, 65, 1500} {
		rows(newBoth(t, mtu), acts(mtu), 5)
		rows(above(t, mtu), acts(mtu), 5)
	}
}

// P12.2, P12.3: each pair of acknowledgements about the edges, below, at and above the threshold, full or not.
func TestEdges(t *testing.T) {
	for _, mtu := range mtus() {
		at := newBoth(t, mtu)
		at.loss()
		for _, from := range []*both{newBoth(t, mtu), at, above(t, mtu)} {
			for _, one := range acks(mtu) {
				for _, two := range acks(mtu) {
					for ways := range 4 {
						b := from.copy()
						b.ack(one, ways&1 == 0)
						b.ack(two, ways&2 == 0)
						b.full(1)
						b.copy().loss()
						b.timeout()
					}
				}
			}
		}
	}
}

// P12.1, P12.2, P12.3: windows by chance.
func TestChance(t *testing.T) {
	r := rand.New(rand.NewPCG(12, 1))
	for range 3000 {
		mtu := 64 + r.IntN(1437)
		if r.IntN(3) == 0 {
			mtu = mtus()[r.IntN(len(mtus()))]
		}
		b := newBoth(t, mtu)
		seldom := 3 + r.IntN(300)
		for range 1 + r.IntN(600) {
			switch r.IntN(seldom) {
			case 0:
				b.loss()
			case 1:
				b.timeout()
			case 2:
				b = b.copy()
			default:
				b.ack(chance(r, mtu), r.IntN(5) > 0)
			}
		}
	}
}

// P12.2, P12.3: windows by chance that are full of what is acknowledged, so that they rise far, and fall now and then.
func TestChanceFar(t *testing.T) {
	r := rand.New(rand.NewPCG(12, 2))
	for range 60 {
		b := newBoth(t, 64+r.IntN(1437))
		for range 8000 {
			switch r.IntN(2000) {
			case 0:
				b.loss()
			case 1:
				b.timeout()
			default:
				b.full(1 + r.IntN(2*b.x.Size()))
			}
		}
	}
}
