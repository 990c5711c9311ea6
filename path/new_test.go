package path

import (
	"math"
	"math/rand/v2"
	"testing"

	"lanyard/api"
	"lanyard/rto"
)

// usual is layer 11's configuration, that of the chapter's examples.
func usual() api.Config {
	return api.Config{
		Mtu: 256, Streams: 4, SendRoom: 4000, RecvRoom: 4000, MsgMax: 1000,
		RtoInit: 300, RtoMin: 100, RtoMax: 6000,
		InitTries: 3, PathTries: 3, AllTries: 6, Beat: 1000, CookieLife: 5000,
	}
}

// least has each number at its least, greatest each at its greatest.
func least() api.Config {
	return api.Config{
		Mtu: 64, Streams: 1, SendRoom: 2, RecvRoom: 2, MsgMax: 1,
		RtoInit: 1, RtoMin: 1, RtoMax: 1,
		InitTries: 1, PathTries: 1, AllTries: 1, Beat: 1, CookieLife: 1,
	}
}

func greatest() api.Config {
	return api.Config{
		Mtu: 1500, Streams: 16, SendRoom: 65536, RecvRoom: 65536, MsgMax: 8192,
		RtoInit: 65536, RtoMin: 65536, RtoMax: 65536,
		InitTries: 255, PathTries: 255, AllTries: 255, Beat: 1048576, CookieLife: 1048576,
	}
}

// trying is a configuration of so many PathTries, and other numbers of the other tries.
func trying(tries uint8) api.Config {
	c := usual()
	c.InitTries, c.PathTries, c.AllTries = 100, tries, 101
	return c
}

// odd is a configuration whose window and timer are far from those of the others.
func odd() api.Config {
	c := trying(2)
	c.Mtu, c.RtoInit, c.RtoMin, c.RtoMax = 64, 1, 1, 65536
	return c
}

// P13.1: a path as at first, of each configuration and between each two addresses.
func TestNew(t *testing.T) {
	for _, c := range []api.Config{usual(), least(), greatest(), odd(), trying(1), trying(255)} {
		for _, e := range ends() {
			x := made(t, c, e[0], e[1])
			stands(t, x, seen{e[0], e[1], true, 0, uint64(c.RtoInit), 2 * c.Mtu})
			out(t, x)
			newBoth(t, c, e[0], e[1])
		}
	}
}

// P13.1: the same, written out.
func TestNewFirst(t *testing.T) {
	stands(t, made(t, usual(), 7, 8), seen{7, 8, true, 0, 300, 512})
	stands(t, made(t, least(), 0, 0), seen{0, 0, true, 0, 1, 128})
	stands(t, made(t, greatest(), math.MaxUint32, math.MaxUint32), seen{math.MaxUint32, math.MaxUint32, true, 0, 65536, 3000})
	stands(t, made(t, odd(), 0, math.MaxUint32), seen{0, math.MaxUint32, true, 0, 1, 128})
}

// P13.1: the addresses, whatever is done, and however often it is asked.
func TestEnds(t *testing.T) {
	for _, e := range ends() {
		for _, ahead := range aheads() {
			b := newBoth(t, usual(), e[0], e[1])
			ahead(b)
			for range 2 {
				if from, to := b.x.Ends(); from != e[0] || to != e[1] {
					t.Fatalf("Ends: %d, %d; want %d, %d", from, to, e[0], e[1])
				}
			}
		}
	}
}

// refused holds New against rto.Check, and that against whether the configuration may be.
func refused(t *testing.T, c api.Config, may bool) {
	t.Helper()
	want := rto.Check(c)
	if (want == api.OK) != may || want != api.OK && want != api.ErrArg {
		t.Fatalf("rto.Check(%+v): %d", c, want)
	}
	for _, ends := range [][2]uint32{{0, 0}, {7, 8}, {math.MaxUint32, 1}} {
		if x, e := New(c, ends[0], ends[1]); e != want || (x != nil) != may {
			t.Fatalf("New(%+v): %v, %d; want %d", c, x, e, want)
		}
	}
}

// P13.1: each number of a configuration at its bounds, and one beyond them.
func TestNewRefused(t *testing.T) {
	for _, x := range []struct {
		set  func(c *api.Config, n int)
		good []int
		bad  []int
	}{
		{func(c *api.Config, n int) { c.Mtu = n }, []int{64, 68, 256, 1496, 1500}, []int{math.MinInt, -64, 0, 4, 60, 63, 65, 66, 67, 257, 1498, 1499, 1501, 1504, 1<<32 + 256, math.MaxInt}},
		{func(c *api.Config, n int) { c.Streams = uint16(n) }, []int{1, 16}, []int{0, 17, 65535}},
		{func(c *api.Config, n int) { c.SendRoom = n }, []int{2000, 65536}, []int{math.MinInt, -1, 0, 1999, 65537, math.MaxInt}},
		{func(c *api.Config, n int) { c.RecvRoom = n }, []int{2000, 65536}, []int{math.MinInt, -1, 0, 1999, 65537, math.MaxInt}},
		{func(c *api.Config, n int) { c.MsgMax = n }, []int{1, 2000}, []int{math.MinInt, -1, 0, 2001, 8193, math.MaxInt}},
		{func(c *api.Config, n int) { c.MsgMax, c.SendRoom, c.RecvRoom = n, 65536, 65536 }, []int{1, 8192}, []int{0, 8193}},
		{func(c *api.Config, n int) { c.RtoInit = uint32(n) }, []int{100, 6000}, []int{0, 99, 6001, 65537, math.MaxUint32}},
		{func(c *api.Config, n int) { c.RtoMin = uint32(n) }, []int{1, 300}, []int{0, 301, math.MaxUint32}},
		{func(c *api.Config, n int) { c.RtoMax = uint32(n) }, []int{300, 65536}, []int{0, 299, 65537, math.MaxUint32}},
		{func(c *api.Config, n int) { c.InitTries = uint8(n) }, []int{1, 255}, []int{0}},
		{func(c *api.Config, n int) { c.PathTries = uint8(n) }, []int{1, 255}, []int{0}},
		{func(c *api.Config, n int) { c.AllTries = uint8(n) }, []int{1, 255}, []int{0}},
		{func(c *api.Config, n int) { c.Beat = uint32(n) }, []int{1, 1048576}, []int{0, 1048577, math.MaxUint32}},
		{func(c *api.Config, n int) { c.CookieLife = uint32(n) }, []int{1, 1048576}, []int{0, 1048577, math.MaxUint32}},
	} {
		for _, n := range x.good {
			c := usual()
			x.set(&c, n)
			refused(t, c, true)
		}
		for _, n := range x.bad {
			c := usual()
			x.set(&c, n)
			refused(t, c, false)
		}
	}
	for _, c := range []api.Config{usual(), least(), greatest(), odd()} {
		refused(t, c, true)
	}
	refused(t, api.Config{}, false)
}

// P13.1: PathTries, all that there may be.
func TestNewTries(t *testing.T) {
	for n := 0; n <= 255; n++ {
		refused(t, trying(uint8(n)), n > 0)
	}
}

// P13.1: the answer of New is that of rto.Check for numbers about all bounds.
func TestNewChance(t *testing.T) {
	r := rand.New(rand.NewPCG(13, 1))
	taken := 0
	for range 20000 {
		c := [3]api.Config{usual(), least(), greatest()}[r.IntN(3)]
		for range 1 + r.IntN(3) {
			off := r.IntN(5) - 2
			switch r.IntN(8) {
			case 0:
				c.Mtu = 4*(16+r.IntN(360)) + off/2
			case 1:
				c.Streams += uint16(off)
			case 2:
				c.SendRoom, c.RecvRoom = 2*c.MsgMax+off, c.SendRoom+off
			case 3:
				c.MsgMax += off
			case 4:
				c.RtoInit += uint32(off)
			case 5:
				c.RtoMin, c.RtoMax = c.RtoMin+uint32(off), c.RtoMax-uint32(off)
			case 6:
				c.InitTries, c.PathTries, c.AllTries = uint8(r.IntN(256)), uint8(r.IntN(4)), c.AllTries+uint8(off)
			default:
				c.Beat, c.CookieLife = c.Beat+uint32(off), c.CookieLife-uint32(off)
			}
		}
		want := rto.Check(c)
		x, e := New(c, 7, 8)
		if e != want || (x != nil) != (want == api.OK) {
			t.Fatalf("New(%+v): %v, %d; want %d", c, x, e, want)
		}
		if want == api.OK {
			taken++
			newBoth(t, c, 7, 8)
		}
	}
	if taken < 1000 || taken > 19000 {
		t.Fatalf("%d of 20000 were taken", taken)
	}
}

// P13.1: each New is a path by itself, also between the same addresses.
func TestNewApart(t *testing.T) {
	for _, ahead := range aheads() {
		a, b := newBoth(t, usual(), 7, 8), newBoth(t, usual(), 7, 8)
		ahead(a)
		b.alike()
		newBoth(t, usual(), 7, 8)
		for _, act := range acts(usual()) {
			act(b)
			a.alike()
		}
	}
}

// P13.1, P13.2, P13.4: a path takes none of the other numbers of a configuration.
func TestNewOthers(t *testing.T) {
	for _, other := range []api.Config{least(), greatest()} {
		c := usual()
		other.Mtu, other.RtoInit, other.RtoMin, other.RtoMax, other.PathTries = c.Mtu, c.RtoInit, c.RtoMin, c.RtoMax, c.PathTries
		for _, ahead := range aheads() {
			a, b := newBoth(t, c, 7, 8), newBoth(t, other, 7, 8)
			ahead(a)
			ahead(b)
			for _, act := range acts(c) {
				act(a)
				act(b)
				stands(t, b.x, look(a.x))
				out(t, b.x, a.w.out...)
			}
		}
	}
}

// The chapter's examples.
func TestExamples(t *testing.T) {
	tells := func(what string, got, want bool) {
		t.Helper()
		if got != want {
			t.Fatalf("%s: %t", what, got)
		}
	}
	x := made(t, usual(), 7, 8)
	tells("the first Miss", x.Miss(), false)
	tells("the second Miss", x.Miss(), false)
	tells("the third Miss", x.Miss(), false)
	tells("the fourth Miss", x.Miss(), true)
	tells("Active", x.Active(), false)
	tells("Hear", x.Hear(), true)
	tells("Hear again", x.Hear(), false)
	x = made(t, usual(), 7, 8)
	tells("Beat 5", x.Beat(5), false)
	tells("Beat 6", x.Beat(6), true)
	tells("Answer 5", x.Answer(5), false)
	tells("Answer 6", x.Answer(6), true)
	tells("Answer 6 again", x.Answer(6), false)
	x = made(t, usual(), 7, 8)
	if x.Wait() != 300 {
		t.Fatal(x.Wait())
	}
	x.Timeout()
	if x.Wait() != 600 {
		t.Fatal(x.Wait())
	}
}

// Of nil: zero, false, nil, nothing.
func TestNil(t *testing.T) {
	var x *Path
	for range 3 {
		stands(t, x, seen{})
		if x.Copy() != nil {
			t.Fatal("a copy of nil")
		}
		if x.Miss() || x.Hear() {
			t.Fatal("nil turned")
		}
		for _, n := range numbers() {
			if x.Beat(n) || x.Answer(n) {
				t.Fatalf("heartbeat %d of nil", n)
			}
		}
		for _, r := range ticks() {
			x.Sample(r)
		}
		for _, n := range acked(64) {
			x.Ack(n, false)
			x.Ack(n, true)
		}
		x.Loss()
		x.Timeout()
	}
}

// P13.1: a copy stands so in all of it, and each goes its own way.
func TestCopy(t *testing.T) {
	for _, c := range []api.Config{usual(), odd(), trying(1)} {
		for _, ahead := range aheads() {
			for _, way := range append(aheads(), acts(c)...) {
				for _, other := range aheads() {
					a := newBoth(t, c, 7, 8)
					ahead(a)
					b := a.copy()
					way(a)
					b.alike()
					other(b)
					a.alike()
					d := a.copy()
					way(b)
					other(d)
					a.alike()
					b.alike()
				}
			}
		}
	}
}

// P13.1: the same, written out.
func TestCopyAll(t *testing.T) {
	a := made(t, usual(), 7, 8)
	for range 4 {
		a.Miss()
	}
	a.Beat(9)
	a.Timeout()
	b := a.Copy()
	a.Hear()
	a.Answer(9)
	a.Sample(50)
	a.Ack(100, true)
	stands(t, a, seen{7, 8, true, 0, 150, 356})
	stands(t, b, seen{7, 8, false, 4, 600, 256})
	out(t, a)
	out(t, b, 9)
	b.Miss()
	b.Beat(10)
	b.Timeout()
	b.Loss()
	stands(t, a, seen{7, 8, true, 0, 150, 356})
	stands(t, b, seen{7, 8, false, 5, 1200, 1024})
	out(t, a)
	out(t, b, 10)
	if !b.Hear() || b.Miss() || b.Miss() || b.Miss() || !b.Miss() { // it has PathTries, too
		t.Fatal("misses of a copy")
	}
}
