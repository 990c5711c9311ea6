package inbox

import (
	"math"
	"testing"

	"lanyard/api"
)

func adds(t *testing.T, x *Inbox, p api.Piece, want api.Errno) {
	t.Helper()
	if e := x.Add(p); e != want {
		t.Fatalf("Add(%d, flags %d, %d-%d, %d bytes): %d, want %d", p.Tsn, p.Flags, p.Sid, p.Ssn, len(p.Data), e, want)
	}
}

func tells(t *testing.T, x *Inbox, want string) {
	t.Helper()
	if m, is := x.Recv(); !is || string(m.Data) != want {
		t.Fatalf("Recv: %q, %v; want %q", m.Data, is, want)
	}
}

func tellsNone(t *testing.T, x *Inbox) {
	t.Helper()
	if m, is := x.Recv(); is || !sameMessage(m, api.Message{}) || m.Data != nil {
		t.Fatalf("Recv: %v, %v; want none", m, is)
	}
}

func stands(t *testing.T, x *Inbox, cum uint32, ready, held int, rwnd uint32) {
	t.Helper()
	if x.Cum() != cum || x.Ready() != ready || x.Held() != held || x.Rwnd() != rwnd {
		t.Fatalf("Cum %d, Ready %d, Held %d, Rwnd %d; want %d, %d, %d, %d", x.Cum(), x.Ready(), x.Held(), x.Rwnd(), cum, ready, held, rwnd)
	}
}

// P10.1, P10.2, P10.3: the chapter's examples.
func TestExamples(t *testing.T) {
	x := New(2, 10, 4, 0)
	stands(t, x, 0, 0, 0, 6)
	adds(t, x, whole(2, 0, 1, "ab"), api.OK)
	stands(t, x, 0, 0, 2, 4)
	adds(t, x, whole(3, 0, 2, "cdefg"), api.ErrFull)
	stands(t, x, 0, 0, 2, 4)
	adds(t, x, whole(1, 0, 0, "xy"), api.OK)
	stands(t, x, 2, 2, 4, 2)
	tells(t, x, "xy")
	tells(t, x, "ab")
	tellsNone(t, x)
	adds(t, x, whole(1, 0, 0, "xy"), api.ErrNone)
	if c, want := x.Sack(), (api.Chunk{Kind: api.CkSack, Tsn: 2, Rwnd: 6, Dups: []uint32{1}}); !sameChunk(c, want) {
		t.Fatal(c)
	}
	adds(t, x, whole(3, 2, 0, "z"), api.ErrStream)
	stands(t, x, 3, 0, 0, 6)
}

// Of nil: ErrNil, none, zero.
func TestNil(t *testing.T) {
	var x *Inbox
	for _, p := range []api.Piece{{}, whole(1, 0, 0, ""), whole(1, 0, 0, "x"), whole(0, 0, 0, "x"), whole(9, 65535, 0, "x"), long(1, 0, 0, 1048577)} {
		adds(t, x, p, api.ErrNil)
	}
	tellsNone(t, x)
	stands(t, x, 0, 0, 0, 0)
	if c := x.Sack(); !sameChunk(c, api.Chunk{}) || c.Gaps != nil || c.Dups != nil {
		t.Fatal(c)
	}
}

// P10.1: each New is an inbox by itself.
func TestNewApart(t *testing.T) {
	a, b := New(1, 100, 10, 5), New(1, 100, 10, 5)
	adds(t, a, whole(6, 0, 0, "a"), api.OK)
	adds(t, a, whole(8, 0, 2, "c"), api.OK)
	stands(t, a, 6, 1, 2, 88)
	stands(t, b, 5, 0, 0, 90)
	adds(t, b, whole(6, 0, 0, "b"), api.OK)
	tells(t, a, "a")
	tellsNone(t, a)
	tells(t, b, "b")
}

// P10.1: the cumulative TSN as it is handed in.
func TestNewCum(t *testing.T) {
	for _, cum := range bases() {
		x := New(1, 100, 10, cum)
		stands(t, x, cum, 0, 0, 90)
		adds(t, x, whole(cum, 0, 0, "x"), api.ErrNone)
		adds(t, x, whole(cum+2, 0, 1, "y"), api.OK)
		stands(t, x, cum, 0, 1, 89)
		adds(t, x, whole(cum+1, 0, 0, "x"), api.OK)
		stands(t, x, cum+2, 2, 2, 88)
	}
}

// sizes are rooms, and mosts, about their edges.
func sizes() []int {
	return []int{math.MinInt, -1 << 32, -1048577, -2, -1, 0, 1, 2, 3, 10, 1048574, 1048575, 1048576, 1048577, 1048578, 1 << 31, 1 << 32, math.MaxInt - 1, math.MaxInt}
}

// P10.1: what a room and a most count as, by Rwnd.
func TestNewSizes(t *testing.T) {
	for _, room := range sizes() {
		for _, most := range sizes() {
			newBoth(t, 1, room, most, 0)
		}
	}
	for _, c := range []struct {
		room, most int
		rwnd       uint32
	}{
		{-1, 0, 0}, {-1, -1, 0}, {0, -1, 0}, {1, -1, 1}, {1, 0, 1}, {1, 1, 0}, {1, 2, 0}, {10, 4, 6},
		{1048576, 0, 1048576}, {1048577, 0, 1048576}, {1048577, 1, 1048575}, {1048576, 1048575, 1}, {1048577, 1048577, 0},
		{math.MaxInt, math.MaxInt, 0}, {math.MaxInt, math.MinInt, 1048576}, {math.MinInt, math.MaxInt, 0}, {math.MaxInt, 1048575, 1},
	} {
		stands(t, New(1, c.room, c.most, 0), 0, 0, 0, c.rwnd)
	}
}

// pieceSizes are lengths about what may just fill an empty inbox of that room and most, from 1 on.
func pieceSizes(room, most int) (l []int) {
	s := newSlow(1, room, most, 0)
	for _, n := range []int{1, 2, s.room - s.most, s.room, s.most} {
		for _, n := range []int{n - 1, n, n + 1} {
			if n > 0 {
				l = append(l, n)
			}
		}
	}
	return l
}

// P10.1, P10.2: rooms and mosts at all edges, and pieces that just fill them: just behind the cumulative TSN and elsewhere.
func TestNewRooms(t *testing.T) {
	edges := []int{-2, -1, 0, 1, 2, 10, 1048575, 1048576, 1048577, 1 << 40}
	for _, room := range edges {
		for _, most := range edges {
			for _, n := range pieceSizes(room, most) {
				for _, tsn := range []uint32{1, 2, 65535, 65536} {
					b := newBoth(t, 1, room, most, 0)
					b.add(long(tsn, 0, 0, n))
				}
			}
		}
	}
}

// P10.2: no streams, one, some, all that there may be.
func TestNewStreams(t *testing.T) {
	for _, streams := range []uint16{0, 1, 2, 16, 17, 255, 256, 32767, 32768, 65534, 65535} {
		x := New(streams, 1000, 10, 0)
		tsn, told := uint32(0), 0
		for _, sid := range []uint16{0, 1, 2, 15, 16, 17, 254, 255, 256, 32766, 32767, 32768, 65533, 65534, 65535} {
			tsn++
			want := api.ErrStream
			if sid < streams {
				want = api.OK
				told++
			}
			adds(t, x, whole(tsn, sid, 0, "x"), want)
			stands(t, x, tsn, told, told, uint32(990-told))
		}
	}
}
