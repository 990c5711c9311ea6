package cwnd

import (
	"math"
	"testing"

	"lanyard/api"
)

// P12.1: every mtu about and between the bounds, and those far beyond.
func TestNew(t *testing.T) {
	far := []int{
		math.MinInt, math.MinInt + 1, -1 << 32, -1<<32 + 64, -1 << 31, -65536, -1500, -128, -64,
		3000, 4096, 65536, 65536 + 64, 1<<31 - 1, 1 << 31, 1 << 32, 1<<32 + 64, 1<<32 + 1500, 1 << 62, math.MaxInt - 1, math.MaxInt,
	}
	for mtu := -50; mtu <= 2000; mtu++ {
		far = append(far, mtu)
	}
	for _, mtu := range far {
		x, e := New(mtu)
		if mtu < 64 || mtu > 1500 {
			if x != nil || e != api.ErrArg {
				t.Fatalf("New(%d): %v, %d", mtu, x, e)
			}
			continue
		}
		if x == nil || e != api.OK || x.Size() != 2*mtu || x.Threshold() != 65536 {
			t.Fatalf("New(%d): %v, %d", mtu, x, e)
		}
	}
}

// P12.1: the edges that the chapter names, written out.
func TestNewEdges(t *testing.T) {
	for _, c := range []struct {
		mtu, size int
		e         api.Errno
	}{
		{0, 0, api.ErrArg}, {63, 0, api.ErrArg}, {64, 128, api.OK}, {65, 130, api.OK}, {100, 200, api.OK},
		{1499, 2998, api.OK}, {api.MaxPacket, 3000, api.OK}, {api.MaxPacket + 1, 0, api.ErrArg},
	} {
		x, e := New(c.mtu)
		if e != c.e || x.Size() != c.size {
			t.Fatalf("New(%d): Size %d, %d", c.mtu, x.Size(), e)
		}
	}
}

// P12.1: each New is a window by itself.
func TestNewApart(t *testing.T) {
	a, b := newBoth(t, 100), newBoth(t, 100)
	a.full(50)
	a.loss()
	a.full(1, 30)
	a.stands(401, 400)
	b.stands(200, 65536)
	newBoth(t, 100)
	newBoth(t, 1500).timeout()
	a.stands(401, 400)
	a.full(370) // the part was 30, and is still
	a.stands(401, 400)
	a.full(1)
	a.stands(501, 400)
}

// Of nil: nothing, 0, nil.
func TestNil(t *testing.T) {
	var x *Window
	for _, n := range acks(64) {
		for _, full := range [2]bool{false, true} {
			x.Ack(n, full)
			x.Loss()
			x.Timeout()
			if x.Size() != 0 || x.Threshold() != 0 || x.Copy() != nil {
				t.Fatalf("Size %d, Threshold %d, Copy %v", x.Size(), x.Threshold(), x.Copy())
			}
		}
	}
}

// P12.1: Size and Threshold change nothing.
func TestAskAgain(t *testing.T) {
	b := above(t, 100)
	b.full(400)
	for range 10 {
		b.stands(401, 400)
	}
	b.full(1)
	b.stands(501, 400)
}

// P12.1: a copy stands so, and each goes its own way.
func TestCopy(t *testing.T) {
	aheads := []func(*both){
		func(b *both) {},
		func(b *both) { b.full(1) },
		func(b *both) { b.loss() },
		func(b *both) { b.timeout() },
		func(b *both) { b.loss(); b.full(1, 4*b.mtu) }, // one below the part that makes it greater
		func(b *both) { b.loss(); b.full(1, 1<<30) },
		func(b *both) { b.rise(65536); b.full(b.mtu, 70000) },
	}
	ways := []func(*both){
		func(b *both) {},
		func(b *both) { b.ack(1, false) },
		func(b *both) { b.full(1) },
		func(b *both) { b.full(1, 1, 1, 1<<30) },
		func(b *both) { b.loss() },
		func(b *both) { b.timeout(); b.full(1) },
		func(b *both) { b.loss(); b.full(3, 4*b.mtu+2) },
	}
	for _, mtu := range mtus() {
		for _, ahead := range aheads {
			for _, way := range ways {
				for _, other := range ways {
					a := newBoth(t, mtu)
					ahead(a)
					b := a.copy()
					way(a)
					b.alike()
					other(b)
					a.alike()
					d := a.copy()
					way(b)
					other(d)
					a.alike()
					other(a)
					b.alike()
					d.alike()
				}
			}
		}
	}
}

// P12.1: a copy has the threshold, the part and the mtu, not the size alone.
func TestCopyAll(t *testing.T) {
	a := above(t, 100)
	a.full(400)
	b := a.copy()
	b.stands(401, 400)
	b.full(1)
	b.stands(501, 400)
	a.stands(401, 400)
	a.loss()
	b.full(501)
	b.stands(601, 400)
	a.stands(400, 400)
	c := a.copy()
	c.timeout()
	c.stands(100, 400)
	a.stands(400, 400)
}
