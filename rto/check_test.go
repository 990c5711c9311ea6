package rto

import (
	"fmt"
	"math"
	"testing"

	"lanyard/api"
)

// usual is the configuration of the chapter's examples.
func usual() api.Config {
	return api.Config{
		Mtu: 256, Streams: 4, SendRoom: 4000, RecvRoom: 4000, MsgMax: 1000,
		RtoInit: 300, RtoMin: 100, RtoMax: 6000,
		InitTries: 3, PathTries: 3, AllTries: 6, Beat: 1000, CookieLife: 5000,
	}
}

// least has each number at its least, greatest each at its greatest.
func least() api.Config {
	return api.Config{
		Mtu: 64, Streams: 1, SendRoom: 2, RecvRoom: 2, MsgMax: 1,
		RtoInit: 1, RtoMin: 1, RtoMax: 1,
		InitTries: 1, PathTries: 1, AllTries: 1, Beat: 1, CookieLife: 1,
	}
}

func greatest() api.Config {
	return api.Config{
		Mtu: 1500, Streams: 16, SendRoom: 65536, RecvRoom: 65536, MsgMax: 8192,
		RtoInit: 65536, RtoMin: 65536, RtoMax: 65536,
		InitTries: 255, PathTries: 255, AllTries: 255, Beat: 1048576, CookieLife: 1048576,
	}
}

// timer is a configuration with those bounds of a timer's value.
func timer(first, low, high uint32) api.Config {
	c := usual()
	c.RtoInit, c.RtoMin, c.RtoMax = first, low, high
	return c
}

// asks holds Check, and New's error, against what is wanted.
func asks(t *testing.T, c api.Config, ok bool) {
	t.Helper()
	want := api.ErrArg
	if ok {
		want = api.OK
	}
	if e := Check(c); e != want {
		t.Fatalf("Check(%+v): %d, want %d", c, e, want)
	}
	x, e := New(c)
	if e != want || (x != nil) != ok {
		t.Fatalf("New(%+v): %v, %d; want %d", c, x, e, want)
	}
	if ok && (x.Value() != uint64(c.RtoInit) || x.Smooth() != 0) {
		t.Fatalf("New(%+v): Value %d, Smooth %d", c, x.Value(), x.Smooth())
	}
}

// P11.1: all at their least, all at their greatest, and in between; none.
func TestCheckAll(t *testing.T) {
	asks(t, usual(), true)
	asks(t, least(), true)
	asks(t, greatest(), true)
	asks(t, api.Config{}, false)
}

// P11.1: the size of a packet.
func TestCheckMtu(t *testing.T) {
	may := func(mtu int, ok bool) {
		t.Helper()
		for _, c := range []api.Config{usual(), least(), greatest()} {
			c.Mtu = mtu
			asks(t, c, ok)
		}
	}
	for mtu := 64; mtu <= 1500; mtu += 4 {
		may(mtu, true)
		for _, n := range []int{mtu + 1, mtu + 2, mtu + 3} {
			may(n, false)
		}
	}
	for mtu := -2000; mtu < 64; mtu++ {
		may(mtu, false)
	}
	for mtu := 1501; mtu < 5000; mtu++ {
		may(mtu, false)
	}
	for _, mtu := range []int{math.MinInt, math.MinInt + 64, -1 << 32, 1 << 16, 1<<16 + 64, 1<<32 + 64, math.MaxInt - 3, math.MaxInt} {
		may(mtu, false)
	}
}

// P11.1: the streams, all that there may be.
func TestCheckStreams(t *testing.T) {
	for n := 0; n <= 65535; n++ {
		c := usual()
		c.Streams = uint16(n)
		asks(t, c, n >= 1 && n <= 16)
	}
}

// P11.1: the rooms and the most bytes of a message: at their edges, and about twice the most bytes.
func TestCheckRooms(t *testing.T) {
	for _, c := range []struct {
		most, room int
		ok         bool
	}{
		{1, 2, true}, {1, 1, false}, {1, 0, false}, {1, -2, false}, {1, 3, true}, {1, 65536, true}, {1, 65537, false},
		{0, 0, false}, {0, 2, false}, {0, 100, false}, {-1, -2, false}, {-1, 2, false}, {-1, 65536, false},
		{2, 3, false}, {2, 4, true}, {2, 5, true}, {3, 5, false}, {3, 6, true},
		{1000, 1000, false}, {1000, 1999, false}, {1000, 2000, true}, {1000, 2001, true}, {1000, 65536, true},
		{8191, 16381, false}, {8191, 16382, true},
		{8192, 8192, false}, {8192, 16383, false}, {8192, 16384, true}, {8192, 16385, true}, {8192, 65535, true}, {8192, 65536, true}, {8192, 65537, false},
		{8193, 16385, false}, {8193, 16386, false}, {8193, 65536, false}, {8193, 65537, false}, {32768, 65536, false}, {40000, 65536, false},
		{1, math.MinInt, false}, {1, math.MaxInt, false}, {1, 1 << 32, false}, {1, 1<<32 + 2, false}, {1, 1<<16 + 2, false},
		{1 << 62, 0, false}, {1 << 62, 65536, false}, {1<<62 + 1, 2, false}, {math.MinInt, 0, false}, {math.MinInt, 65536, false}, {math.MinInt + 1, 2, false},
		{math.MaxInt, -2, false}, {math.MaxInt, 65536, false}, {math.MaxInt, math.MaxInt, false}, {1<<32 + 1, 2, false}, {1<<32 + 1, 65536, false},
	} {
		both := usual()
		both.MsgMax, both.SendRoom, both.RecvRoom = c.most, c.room, c.room
		asks(t, both, c.ok)
		if c.most < 1 || c.most > 8192 {
			continue
		}
		for _, good := range []int{2 * c.most, 2*c.most + 1, 65536} { // one of the rooms at a time
			x := both
			x.SendRoom = good
			asks(t, x, c.ok)
			x = both
			x.RecvRoom = good
			asks(t, x, c.ok)
		}
	}
}

// P11.1: the most bytes of a message, all about its bounds, in the greatest rooms.
func TestCheckMsgMax(t *testing.T) {
	for n := -10; n <= 20000; n++ {
		c := greatest()
		c.MsgMax = n
		asks(t, c, n >= 1 && n <= 8192)
	}
}

// P11.1: the bounds of a timer's value, and its first one.
func TestCheckRto(t *testing.T) {
	for _, c := range []struct {
		first, low, high uint32
		ok               bool
	}{
		{300, 100, 6000, true}, {100, 100, 6000, true}, {99, 100, 6000, false}, {6000, 100, 6000, true}, {6001, 100, 6000, false},
		{100, 100, 100, true}, {101, 100, 100, false}, {99, 100, 100, false}, {100, 101, 100, false}, {100, 100, 99, false},
		{1, 1, 1, true}, {0, 0, 0, false}, {1, 0, 1, false}, {0, 0, 1, false}, {0, 1, 1, false}, {1, 1, 0, false}, {0, 0, 65536, false}, {300, 0, 6000, false},
		{1, 1, 65536, true}, {65536, 1, 65536, true}, {65536, 65536, 65536, true}, {65535, 65536, 65536, false}, {65536, 65536, 65535, false},
		{1, 1, 65537, false}, {300, 100, 65537, false}, {65537, 1, 65537, false}, {65537, 1, 65536, false}, {65537, 65537, 65537, false},
		{300, 6000, 100, false}, {6000, 300, 100, false}, {100, 300, 6000, false}, {300, 100, 200, false}, {6000, 100, 300, false},
		{1 << 31, 1, 1 << 31, false}, {1, 1, 1 << 31, false}, {math.MaxUint32, 1, math.MaxUint32, false}, {math.MaxUint32, math.MaxUint32, math.MaxUint32, false},
		{1, 1, math.MaxUint32, false}, {math.MaxUint32, 1, 65536, false}, {1, math.MaxUint32, 1, false}, {1, 1 << 16, 1, false}, {1<<16 + 1, 1, 1, false}, {1 << 31, 1 << 31, 65536, false},
	} {
		asks(t, timer(c.first, c.low, c.high), c.ok)
	}
}

// P11.1: the bounds of a timer's value, in each order, about all edges.
func TestCheckRtoRows(t *testing.T) {
	edges := []uint32{0, 1, 2, 99, 100, 101, 65534, 65535, 65536, 65537, 131072, 1<<31 - 1, 1 << 31, math.MaxUint32 - 1, math.MaxUint32}
	for _, low := range edges {
		for _, first := range edges {
			for _, high := range edges {
				rises := 1 <= low && low <= first && first <= high && high <= 65536
				asks(t, timer(first, low, high), rises)
			}
		}
	}
}

// P11.1: the tries, all that there may be of each.
func TestCheckTries(t *testing.T) {
	for _, base := range []api.Config{usual(), least(), greatest()} {
		for n := 0; n <= 255; n++ {
			a, b, c := base, base, base
			a.InitTries, b.PathTries, c.AllTries = uint8(n), uint8(n), uint8(n)
			asks(t, a, n > 0)
			asks(t, b, n > 0)
			asks(t, c, n > 0)
		}
	}
}

// P11.1: how long a path is silent, and a cookie may be used.
func TestCheckTicks(t *testing.T) {
	for _, c := range []struct {
		n  uint32
		ok bool
	}{
		{0, false}, {1, true}, {2, true}, {65535, true}, {65536, true}, {65537, true}, {1048575, true}, {1048576, true}, {1048577, false},
		{1048576 * 2, false}, {1<<31 - 1, false}, {1 << 31, false}, {1<<31 + 1, false}, {math.MaxUint32 - 1, false}, {math.MaxUint32, false},
	} {
		for _, base := range []api.Config{usual(), least(), greatest()} {
			a, b := base, base
			a.Beat, b.CookieLife = c.n, c.n
			asks(t, a, c.ok)
			asks(t, b, c.ok)
		}
	}
}

// wrongs are ways to put one number out of its bounds.
func wrongs() []func(*api.Config) {
	return []func(*api.Config){
		func(c *api.Config) { c.Mtu = 60 },
		func(c *api.Config) { c.Mtu = 66 },
		func(c *api.Config) { c.Mtu = 1504 },
		func(c *api.Config) { c.Streams = 0 },
		func(c *api.Config) { c.Streams = 17 },
		func(c *api.Config) { c.SendRoom = 1999 },
		func(c *api.Config) { c.SendRoom = 65537 },
		func(c *api.Config) { c.RecvRoom = 1999 },
		func(c *api.Config) { c.RecvRoom = 65537 },
		func(c *api.Config) { c.MsgMax = 0 },
		func(c *api.Config) { c.MsgMax = 8193 },
		func(c *api.Config) { c.RtoMin = 0 },
		func(c *api.Config) { c.RtoInit = 99 },
		func(c *api.Config) { c.RtoInit = 6001 },
		func(c *api.Config) { c.RtoMax = 65537 },
		func(c *api.Config) { c.InitTries = 0 },
		func(c *api.Config) { c.PathTries = 0 },
		func(c *api.Config) { c.AllTries = 0 },
		func(c *api.Config) { c.Beat = 0 },
		func(c *api.Config) { c.Beat = 1048577 },
		func(c *api.Config) { c.CookieLife = 0 },
		func(c *api.Config) { c.CookieLife = 1048577 },
	}
}

// P11.1: numbers that are out of their bounds by two are no better than by one.
func TestCheckTwoWrong(t *testing.T) {
	for i, one := range wrongs() {
		for j, other := range wrongs() {
			t.Run(fmt.Sprint(i, "-", j), func(t *testing.T) {
				c := usual()
				one(&c)
				asks(t, c, false)
				other(&c)
				asks(t, c, false)
			})
		}
	}
}
