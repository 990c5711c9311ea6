package inbox

import (
	"bytes"
	"slices"
	"strings"
	"testing"

	"lanyard/api"
)

// P10.2: a piece of no bytes is none, whatever else it is: nothing is otherwise.
func TestAddNoBytes(t *testing.T) {
	for _, data := range [][]byte{nil, {}, []byte("abc")[:0]} {
		b := newBoth(t, 1, 4, 2, 0)
		for _, tsn := range []uint32{0, 1, 2, 65536, 1 << 31, 1<<32 - 1} {
			for _, sid := range []uint16{0, 1} {
				for flags := range uint8(8) {
					p := api.Piece{Tsn: tsn, Flags: flags, Sid: sid, Data: data}
					if e := b.add(p); e != api.ErrArg {
						b.fail("%d", e)
					}
				}
			}
		}
		b.sack()
		b.add(whole(1, 0, 0, "abcd")) // the room is full
		if e := b.add(api.Piece{Tsn: 2, Data: data}); e != api.ErrArg {
			b.fail("%d", e)
		}
		b.sack()
	}
}

// ways are from the cumulative TSN on, about each edge.
func ways() []uint32 {
	return []uint32{0, 1, 2, 3, 65534, 65535, 65536, 65537, 1<<31 - 2, 1<<31 - 1, 1 << 31, 1<<31 + 1, 1<<31 + 2, 1<<32 - 65537, 1<<32 - 65536, 1<<32 - 65535, 1<<32 - 2, 1<<32 - 1}
}

// P10.2: TSNs that are there come twice, those that are too far do not; both are ErrNone, and nothing else is otherwise.
func TestAddThereOrFar(t *testing.T) {
	for _, base := range bases() {
		for _, way := range ways() {
			for _, sid := range []uint16{0, 1} {
				b := newBoth(t, 1, 100, 10, base)
				e := b.add(whole(base+way, sid, 0, "x"))
				if (e == api.ErrNone) != (way == 0 || way > 65535) {
					b.fail("%d", e)
				}
				b.sack()
				b.add(whole(base+way, sid, 0, "x"))
				b.sack()
			}
		}
	}
	x := New(1, 100, 10, 0)
	for _, tsn := range []uint32{65536, 1<<31 - 1, 1 << 31} { // too far
		adds(t, x, whole(tsn, 0, 0, "x"), api.ErrNone)
	}
	if c := x.Sack(); len(c.Dups) != 0 || len(c.Gaps) != 0 {
		t.Fatal(c)
	}
	for _, tsn := range []uint32{1<<31 + 1, 0, 1<<32 - 1} { // there
		adds(t, x, whole(tsn, 0, 0, "x"), api.ErrNone)
	}
	if c := x.Sack(); !slices.Equal(c.Dups, []uint32{1<<31 + 1, 0, 1<<32 - 1}) || len(c.Gaps) != 0 {
		t.Fatal(c)
	}
	stands(t, x, 0, 0, 0, 90)
}

// P10.2: what is told first: a TSN that is there, or too far, goes ahead of no room, and that of no such stream.
func TestAddFirstError(t *testing.T) {
	x := New(1, 10, 4, 0)
	adds(t, x, whole(1, 0, 0, "0123456789"), api.OK) // the room is full
	for _, sid := range []uint16{0, 1} {
		adds(t, x, whole(1, sid, 0, "x"), api.ErrNone)
		adds(t, x, whole(0, sid, 0, "x"), api.ErrNone)
		adds(t, x, whole(65537, sid, 0, "x"), api.ErrNone)
		adds(t, x, whole(65536, sid, 0, "x"), api.ErrFull)
		adds(t, x, whole(2, sid, 0, "x"), api.ErrFull)
		adds(t, x, whole(3, sid, 0, "x"), api.ErrFull)
		adds(t, x, whole(3, sid, 0, ""), api.ErrArg)
		adds(t, x, whole(1, sid, 0, ""), api.ErrArg)
	}
	stands(t, x, 1, 1, 10, 0)
	if c := x.Sack(); !slices.Equal(c.Dups, []uint32{1, 0, 1, 0}) || len(c.Gaps) != 0 {
		t.Fatal(c)
	}
}

// holds are inboxes of room 20, most 6, cumulative TSN 100 and two streams that hold five bytes in some way.
func holds(t *testing.T) map[string]*both {
	m := map[string]*both{}
	with := func(name string, l ...api.Piece) {
		b := newBoth(t, 2, 20, 6, 100)
		for _, p := range l {
			if e := b.add(p); e != api.OK {
				b.fail("%d", e)
			}
		}
		if b.x.Held() != 5 {
			b.fail("Held %d", b.x.Held())
		}
		m[name] = b
	}
	with("a piece", part(105, api.FlBegin, 0, 0, "abcde"))
	with("pieces", part(105, api.FlBegin, 0, 0, "ab"), part(106, 0, 0, 0, "c"), part(109, api.FlEnd, 0, 0, "de"))
	with("pieces that came in order", part(101, api.FlBegin, 0, 0, "ab"), part(102, 0, 0, 0, "cde"))
	with("one that waits", whole(105, 0, 1, "abcde"))
	with("those that wait", whole(101, 0, 1, "ab"), whole(102, 1, 1, "ab"), whole(103, 0, 7, "e"))
	with("one that is ready", whole(101, 0, 0, "abcde"))
	with("those that are ready", loose(105, 0, 0, "ab"), whole(104, 0, 0, "ab"), loose(106, 0, 9, "e"))
	with("each", part(105, api.FlBegin, 0, 0, "ab"), whole(101, 1, 1, "a"), whole(108, 0, 0, "ab"))
	return m
}

// P10.1, P10.2: what is held counts, whatever holds it; the room is just filled, or one byte too much comes.
func TestAddFull(t *testing.T) {
	for name := range holds(t) {
		for n := 1; n <= 21; n++ {
			for way := uint32(1); way < 12; way++ {
				for _, sid := range []uint16{0, 2} {
					b := holds(t)[name]
					tsn := b.x.Cum() + way
					if b.s.there(tsn) {
						continue
					}
					want := api.OK
					if sid == 2 {
						want = api.ErrStream
					}
					if way == 1 && n > 15 || way != 1 && n > 9 {
						want = api.ErrFull
					}
					if e := b.add(long(tsn, sid, 9, n)); e != want {
						b.fail("%s: %d", name, e)
					}
					b.sack()
				}
			}
		}
	}
}

// P10.2: a piece that found no room did not come: it comes later, and is not told as one that came twice.
func TestAddFullAgain(t *testing.T) {
	for _, tsn := range []uint32{1, 2, 3, 9, 65535} {
		b := newBoth(t, 1, 12, 2, 0)
		b.add(part(5, 0, 0, 3, "0123456789"))
		for range 3 {
			if e := b.add(whole(tsn, 0, 0, "xyz")); e != api.ErrFull {
				b.fail("%d", e)
			}
		}
		if c := b.x.Sack(); c.Tsn != 0 || c.Rwnd != 0 || len(c.Dups) != 0 || !slices.Equal(c.Gaps, []api.Gap{{Start: 5, End: 5}}) {
			b.fail("%v", c)
		}
	}
	x := New(1, 12, 2, 0)
	adds(t, x, loose(5, 0, 0, "0123456789"), api.OK)
	for _, tsn := range []uint32{1, 2, 3} {
		adds(t, x, whole(tsn, 0, uint16(tsn)-1, "xyz"), api.ErrFull)
	}
	tells(t, x, "0123456789")
	for _, tsn := range []uint32{3, 2, 1} {
		adds(t, x, whole(tsn, 0, uint16(tsn)-1, "xyz"), api.OK)
	}
	stands(t, x, 3, 3, 9, 1)
	if c := x.Sack(); len(c.Dups) != 0 || !slices.Equal(c.Gaps, []api.Gap{{Start: 2, End: 2}}) {
		t.Fatal(c)
	}
}

// P10.2: that the next one fills the room does not hang on the most, though that is above the room.
func TestAddMostAboveRoom(t *testing.T) {
	for _, most := range []int{8, 9, 1000, 1048576, 1 << 40} {
		x := New(1, 8, most, 0)
		for _, tsn := range []uint32{2, 3, 65535} {
			adds(t, x, whole(tsn, 0, 0, "x"), api.ErrFull)
		}
		adds(t, x, whole(1, 0, 0, "123456789"), api.ErrFull)
		adds(t, x, whole(1, 0, 0, "1234567"), api.OK)
		stands(t, x, 1, 1, 7, 0)
		adds(t, x, whole(3, 0, 0, "8"), api.ErrFull)
		adds(t, x, whole(2, 0, 1, "8"), api.OK)
		stands(t, x, 2, 2, 8, 0)
	}
}

// P10.2: a piece of no such stream came, and is nowhere: neither held, nor part of a message.
func TestAddNoStream(t *testing.T) {
	b := newBoth(t, 2, 100, 10, 0)
	for _, p := range []api.Piece{
		whole(1, 2, 0, "a"), loose(2, 3, 0, "b"), part(4, api.FlBegin, 65535, 0, "c"), part(5, api.FlEnd, 65535, 0, "d"),
		part(7, 0, 2, 1, "e"), whole(9, 40000, 40000, "f"),
	} {
		if e := b.add(p); e != api.ErrStream {
			b.fail("%d", e)
		}
	}
	stands(t, b.x, 2, 0, 0, 90)
	b.sack()
	if e := b.add(whole(3, 1, 0, "x")); e != api.OK || b.x.Cum() != 5 || b.x.Ready() != 1 {
		b.fail("%d", e)
	}
	if e := b.add(whole(4, 1, 1, "x")); e != api.ErrNone {
		b.fail("%d", e)
	}
	b.sack()
	b.all()
}

// P10.2: a message in pieces is held till it is whole, and what is whole is one message.
func TestAddPieces(t *testing.T) {
	x := New(3, 100, 10, 1<<32-2)
	adds(t, x, part(1, 0, 2, 0, "cd"), api.OK)
	adds(t, x, part(2, api.FlEnd, 2, 0, "e"), api.OK)
	stands(t, x, 1<<32-2, 0, 3, 87)
	adds(t, x, part(1<<32-1, api.FlBegin, 2, 0, "a"), api.OK)
	stands(t, x, 1<<32-1, 0, 4, 86)
	adds(t, x, api.Piece{Tsn: 0, Sid: 2, Ppid: 9, Data: []byte("b")}, api.OK)
	stands(t, x, 2, 1, 5, 85)
	if m, is := x.Recv(); !is || !sameMessage(m, api.Message{Sid: 2, Data: []byte("abcde")}) {
		t.Fatal(m, is)
	}
	stands(t, x, 2, 0, 0, 90)
	p := api.Piece{Tsn: 3, Flags: 7, Sid: 1, Ssn: 77, Ppid: 1<<32 - 3, Data: []byte("x")}
	adds(t, x, p, api.OK)
	if m, is := x.Recv(); !is || !sameMessage(m, api.Message{Sid: 1, Unordered: true, Ppid: 1<<32 - 3, Data: []byte("x")}) {
		t.Fatal(m, is)
	}
}

// P10.3: an acknowledgement's gaps, and no more of them than a chunk may have.
func TestSackGaps(t *testing.T) {
	b := newBoth(t, 1, 1000, 10, 1<<32-70)
	for i := range uint32(70) {
		b.add(whole(1<<32-70+2+3*i, 0, uint16(i), "x"))
		b.sack()
		if i%2 == 0 {
			b.add(whole(1<<32-70+3+3*i, 0, 1000, "x"))
			b.sack()
		}
	}
	if l := b.x.Sack().Gaps; len(l) != 64 || l[0] != (api.Gap{Start: 2, End: 3}) || l[63] != (api.Gap{Start: 191, End: 191}) {
		b.fail("%v", l)
	}
	b.add(whole(1<<32-69, 0, 1, "x"))
	if l := b.x.Sack().Gaps; len(l) != 64 || l[0] != (api.Gap{Start: 2, End: 2}) {
		b.fail("%v", l)
	}
}

// P10.3: what came twice is told once, in order, the first sixteen.
func TestSackDups(t *testing.T) {
	x := New(1, 1000, 10, 100)
	adds(t, x, whole(101, 0, 0, "x"), api.OK)
	adds(t, x, whole(103, 0, 0, "x"), api.OK)
	for n := range 20 {
		var want []uint32
		for i := range n {
			tsn := []uint32{103, 100, 101, 7}[i%4]
			adds(t, x, whole(tsn, 0, 0, "y"), api.ErrNone)
			want = append(want, tsn)
		}
		gap := []api.Gap{{Start: 2, End: 2}}
		c := x.Sack()
		if !sameChunk(c, api.Chunk{Kind: 3, Tsn: 101, Rwnd: 989, Gaps: gap, Dups: want[:min(n, 16)]}) {
			t.Fatal(n, c)
		}
		if c := x.Sack(); !sameChunk(c, api.Chunk{Kind: 3, Tsn: 101, Rwnd: 989, Gaps: gap}) {
			t.Fatal(n, c)
		}
	}
}

// What is handed in is neither changed nor kept.
func TestAddOwnBytes(t *testing.T) {
	x := New(1, 1000, 10, 0)
	for _, p := range []api.Piece{
		whole(4, 0, 2, "rw"),                         // waits
		part(2, api.FlBegin, 0, 1, "ab"),             // is kept
		part(3, api.FlEnd, 0, 1, "cd"),               // makes it whole
		loose(6, 0, 0, "uv"),                         // is ready
		whole(7, 1, 0, "zz"),                         // has no stream
		loose(6, 0, 0, "uv"),                         // came
		loose(1<<20, 0, 0, "uv"),                     // is too far
		loose(8, 0, 0, strings.Repeat("long ", 200)), // finds no room
		whole(1, 0, 0, "first"),                      // makes the others ready
	} {
		kept := bytes.Clone(p.Data)
		x.Add(p)
		if !bytes.Equal(p.Data, kept) {
			t.Fatal(p.Tsn, p.Data)
		}
		for i := range p.Data {
			p.Data[i] = '!'
		}
	}
	for _, want := range []string{"uv", "first", "abcd", "rw"} {
		tells(t, x, want)
	}
	tellsNone(t, x)
}

// What is told is its user's: what is written there, or put behind it, is nowhere else.
func TestToldOwnBytes(t *testing.T) {
	x := New(1, 1000, 10, 0)
	for i, s := range []string{"one", "two", "three"} {
		adds(t, x, whole(uint32(i)+1, 0, uint16(i), s), api.OK)
	}
	adds(t, x, whole(2, 0, 0, "again"), api.ErrNone)
	adds(t, x, whole(9, 0, 7, "behind"), api.OK)
	for _, want := range []string{"one", "two", "three"} {
		m, is := x.Recv()
		if !is || string(m.Data) != want {
			t.Fatal(m, is)
		}
		for i := range m.Data {
			m.Data[i] = '!'
		}
		_ = append(m.Data, "behind it"...)
	}
	c := x.Sack()
	c.Gaps[0], c.Dups[0] = api.Gap{Start: 7, End: 9}, 5
	_, _ = append(c.Gaps, api.Gap{}), append(c.Dups, 6)
	adds(t, x, whole(3, 0, 0, "again"), api.ErrNone)
	if c := x.Sack(); !sameChunk(c, api.Chunk{Kind: 3, Tsn: 3, Rwnd: 984, Gaps: []api.Gap{{Start: 6, End: 6}}, Dups: []uint32{3}}) {
		t.Fatal(c)
	}
}
