package inbox

import (
	"strconv"
	"testing"

	"lanyard/api"
)

// P10.2: each way of an Ssn from the next one, a stream each: the next one itself is ready, those it is before wait, the rest is left out.
func TestSsnWays(t *testing.T) {
	x := New(65535, 1048576, 1, 0)
	for ssn := range 65535 {
		held, ready := x.Held(), x.Ready()
		adds(t, x, whole(uint32(ssn)+1, uint16(ssn), uint16(ssn), "x"), api.OK)
		wantHeld, wantReady := held, ready
		switch {
		case ssn == 0:
			wantHeld, wantReady = held+1, ready+1
		case ssn <= 32767:
			wantHeld = held + 1
		}
		if x.Held() != wantHeld || x.Ready() != wantReady {
			t.Fatal(ssn, x.Held(), x.Ready())
		}
	}
	adds(t, x, whole(65536, 5, 65535, "x"), api.OK)
	stands(t, x, 65536, 1, 32768, 1048576-1-32768)
}

// bring makes an Ssn the next one of stream 0.
func bring(t *testing.T, x *Inbox, next int) {
	for ssn := range next {
		adds(t, x, whole(x.Cum()+1, 0, uint16(ssn), "x"), api.OK)
		tells(t, x, "x")
	}
}

// P10.2: the same where Ssns go round: about the next one, and half round from it.
func TestSsnRound(t *testing.T) {
	for _, next := range []int{1, 2, 32766, 32767, 32768, 32769, 65533, 65534, 65535, 65536, 65537, 98305, 131072} {
		x := New(1, 1000, 1, 1<<32-1000)
		bring(t, x, next)
		left, waiting := []int{-1, -2, -3, -32767, -32768, 32768, 32769, 65535}, []int{32767, 32766, 16384, 255, 256, 3, 2, 1}
		for _, way := range left {
			adds(t, x, whole(x.Cum()+1, 0, uint16(next+way), "left out"), api.OK)
			stands(t, x, x.Cum(), 0, 0, 999)
		}
		for i, way := range waiting {
			adds(t, x, whole(x.Cum()+1, 0, uint16(next+way), strconv.Itoa(way%10)), api.OK)
			stands(t, x, x.Cum(), 0, i+1, uint32(998-i))
			adds(t, x, whole(x.Cum()+1, 0, uint16(next+way), "twice"), api.OK)
			stands(t, x, x.Cum(), 0, i+1, uint32(998-i))
		}
		adds(t, x, whole(x.Cum()+1, 0, uint16(next), "0"), api.OK)
		stands(t, x, x.Cum(), 4, 9, 990)
		for i := range 4 {
			tells(t, x, strconv.Itoa(i))
		}
		tellsNone(t, x)
		stands(t, x, x.Cum(), 0, 5, 994)
	}
}

// P10.2: several become ready at a time: those of the stream, up to the first one that is missing, and none of another one.
func TestSeveralReady(t *testing.T) {
	x := New(3, 1000, 10, 0)
	for i, p := range []api.Piece{
		whole(2, 1, 1, "b1"), whole(4, 0, 2, "a2"), whole(3, 0, 1, "a1"), whole(5, 0, 4, "a4"), whole(6, 0, 5, "a5"), whole(7, 2, 1, "c1"), whole(8, 1, 3, "b3"),
	} {
		adds(t, x, p, api.OK)
		stands(t, x, 0, 0, 2*i+2, uint32(988-2*i))
	}
	adds(t, x, loose(9, 0, 0, "u0"), api.OK)
	stands(t, x, 0, 1, 16, 974)
	adds(t, x, whole(1, 0, 0, "a0"), api.OK)
	stands(t, x, 9, 4, 18, 972)
	adds(t, x, whole(10, 1, 0, "b0"), api.OK)
	adds(t, x, whole(12, 0, 3, "a3"), api.OK)
	stands(t, x, 10, 9, 22, 968)
	for _, want := range []string{"u0", "a0", "a1", "a2", "b0", "b1", "a3", "a4", "a5"} {
		tells(t, x, want)
	}
	tellsNone(t, x)
	stands(t, x, 10, 0, 4, 986)
}

// P10.2: of two with one Ssn the first one waits; what is left out is nowhere, and its TSN came.
func TestLeftOut(t *testing.T) {
	x := New(2, 1000, 10, 0)
	adds(t, x, whole(2, 0, 1, "first"), api.OK)
	adds(t, x, whole(3, 0, 1, "second"), api.OK)
	stands(t, x, 0, 0, 5, 985)
	adds(t, x, whole(4, 1, 1, "other"), api.OK) // of another stream, with that Ssn
	stands(t, x, 0, 0, 10, 980)
	adds(t, x, loose(5, 0, 1, "loose"), api.OK) // out of order, with that Ssn
	stands(t, x, 0, 1, 15, 975)
	adds(t, x, part(6, api.FlBegin, 0, 1, "th"), api.OK)
	stands(t, x, 0, 1, 17, 973)
	adds(t, x, part(7, api.FlEnd, 0, 1, "ird"), api.OK) // it is left out when it is whole
	stands(t, x, 0, 1, 15, 975)
	adds(t, x, whole(1, 0, 0, "zero"), api.OK)
	stands(t, x, 7, 3, 19, 971)
	adds(t, x, whole(8, 0, 1, "old"), api.OK)
	adds(t, x, whole(9, 0, 0, "older"), api.OK)
	stands(t, x, 9, 3, 19, 971)
	for _, want := range []string{"loose", "zero", "first"} {
		tells(t, x, want)
	}
	tellsNone(t, x)
	adds(t, x, whole(3, 0, 1, "second"), api.ErrNone)
}

// P10.2: messages out of order are ready at once, whatever their Ssns; none of the ordered ones goes on by them.
func TestUnordered(t *testing.T) {
	for _, ssn := range []uint16{0, 1, 2, 32767, 32768, 65535} {
		x := New(1, 1000, 10, 0)
		adds(t, x, whole(2, 0, 1, "one"), api.OK)
		adds(t, x, loose(3, 0, ssn, "loose"), api.OK)
		adds(t, x, loose(4, 0, ssn, "again"), api.OK)
		stands(t, x, 0, 2, 13, 977)
		adds(t, x, whole(1, 0, 0, "zero"), api.OK)
		for _, want := range []string{"loose", "again", "zero", "one"} {
			tells(t, x, want)
		}
		tellsNone(t, x)
	}
}

// small are pieces out of which short rows have about all that may happen.
func small() (l []api.Piece) {
	for _, tsn := range []uint32{1, 2, 3} {
		for _, flags := range []uint8{0, 1, 2, 3, 7} {
			for _, at := range []struct{ sid, ssn uint16 }{{0, 0}, {0, 1}, {0, 2}, {1, 0}} {
				if flags != 3 && (at.sid == 1 || at.ssn == 2) {
					continue
				}
				l = append(l, api.Piece{Tsn: tsn, Flags: flags, Sid: at.sid, Ssn: at.ssn, Data: []byte{'0' + byte(tsn), 'a' + byte(at.ssn)}[:1+tsn%2]})
			}
		}
	}
	return append(l, whole(0, 0, 0, "a"), whole(65535, 0, 1, "f"), whole(65537, 0, 1, "f"), whole(1, 0, 0, ""), whole(1, 0, 0, "long"), whole(2, 0, 1, "long"))
}

// P10.2: all rows of three pieces, out of those that may happen in a small inbox; what is ready is taken with the last one, or each.
func TestSmallRows(t *testing.T) {
	l := small()
	for i, a := range l {
		for k, c := range l {
			for n, d := range l {
				b := newBoth(t, 1, 5, 2, 0)
				b.add(a)
				b.add(c)
				if (i+k+n)%2 == 0 {
					b.recv()
				}
				b.add(d)
				b.sack()
				b.all()
			}
		}
	}
}

// P10.2, P10.3: inboxes that go by chance: pieces of whatever kind, near the cumulative TSN and the next Ssn, among what is taken and told.
func TestChance(t *testing.T) {
	d := dice()
	for range 1500 {
		streams, room := uint16(d.IntN(4)), d.IntN(60)
		base := bases()[d.IntN(len(bases()))]
		b := newBoth(t, streams, room, d.IntN(25), base)
		for range 120 {
			switch d.IntN(10) {
			case 0:
				b.recv()
			case 1:
				b.sack()
			case 2:
				b.all()
			default:
				b.add(byChance(d.IntN, b.x.Cum(), uint16(d.IntN(6))))
			}
		}
		b.sack()
		b.all()
	}
}

// byChance is a piece, with its TSN and its Ssn a little ahead of these, or a little behind.
func byChance(n func(int) int, cum uint32, ssn uint16) api.Piece {
	p := api.Piece{Tsn: cum + uint32(n(8)) - 1, Flags: uint8(n(8)), Sid: uint16(n(3)), Ssn: ssn, Ppid: uint32(n(3)), Data: make([]byte, n(9))}
	if n(3) > 0 {
		p.Flags |= 3
	}
	if n(3) > 0 {
		p.Flags &^= 4
	}
	if n(20) == 0 {
		p.Tsn = cum + ways()[n(len(ways()))]
	}
	for i := range p.Data {
		p.Data[i] = byte('a' + n(26))
	}
	return p
}
