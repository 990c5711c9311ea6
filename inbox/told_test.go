package inbox

import (
	"math/rand/v2"
	"runtime"
	"slices"
	"strconv"
	"testing"
	"weak"

	"lanyard/api"
	"lanyard/frag"
)

// sender is a well-behaved one (P10.5), and what was told of its messages. A message's Ppid is its number.
type sender struct {
	base     uint32
	messages []api.Message
	pieces   []api.Piece
	told     []bool
	turns    map[uint16][]int // of each stream the ordered ones that are not told yet
}

// send cuts a message behind those that were cut.
func (s *sender) send(sid uint16, unordered bool, data []byte, size int, ssn uint16) {
	m := api.Message{Sid: sid, Unordered: unordered, Ppid: uint32(len(s.messages)), Data: data}
	l, _ := frag.Cut(m, size)
	for _, p := range l {
		p.Tsn, p.Ssn = s.base+1+uint32(len(s.pieces)), ssn
		s.pieces = append(s.pieces, p)
	}
	if !unordered {
		s.turns[sid] = append(s.turns[sid], len(s.messages))
	}
	s.messages, s.told = append(s.messages, m), append(s.told, false)
}

// newSender has so many messages of at most that many bytes, on so many streams, in pieces of at most that size; with loose ones, every third is out of order.
func newSender(d *rand.Rand, base uint32, count, streams, most, size int, loose bool) *sender {
	s := &sender{base: base, turns: map[uint16][]int{}}
	next := make([]uint16, streams)
	for range count {
		sid := uint16(d.IntN(streams))
		data := make([]byte, 1+d.IntN(most))
		if d.IntN(4) == 0 {
			data = make([]byte, most)
		}
		for i := range data {
			data[i] = byte(d.Uint32())
		}
		if loose && d.IntN(3) == 0 {
			s.send(sid, true, data, size, uint16(d.IntN(3)))
			continue
		}
		s.send(sid, false, data, size, next[sid])
		next[sid]++
	}
	return s
}

// next is the piece just behind the cumulative TSN.
func (s *sender) next(x *Inbox) api.Piece { return s.pieces[x.Cum()-s.base] }

func (s *sender) over(x *Inbox) bool { return int(x.Cum()-s.base) == len(s.pieces) }

// takes is told one message, and holds it against what was sent: as it was, once, and in order.
func (s *sender) takes(t *testing.T, x *Inbox) bool {
	t.Helper()
	m, is := x.Recv()
	if !is {
		return false
	}
	if int(m.Ppid) >= len(s.messages) || !sameMessage(m, s.messages[m.Ppid]) || s.told[m.Ppid] {
		t.Fatalf("told %v", m)
	}
	s.told[m.Ppid] = true
	if l := s.turns[m.Sid]; !m.Unordered {
		if l[0] != int(m.Ppid) {
			t.Fatalf("told %v, but it was the turn of %v", m, s.messages[l[0]])
		}
		s.turns[m.Sid] = l[1:]
	}
	return true
}

func (s *sender) takesAll(t *testing.T, x *Inbox) {
	t.Helper()
	for s.takes(t, x) {
	}
}

// ended: all of it was told, and nothing is held.
func (s *sender) ended(t *testing.T, x *Inbox) {
	t.Helper()
	s.takesAll(t, x)
	if i := slices.Index(s.told, false); i >= 0 {
		t.Fatalf("%v was not told", s.messages[i])
	}
	if x.Held() != 0 || x.Ready() != 0 {
		t.Fatalf("Held %d, Ready %d", x.Held(), x.Ready())
	}
}

// hand hands a piece over; it never holds more than the room.
func hand(t *testing.T, x *Inbox, p api.Piece, room int) api.Errno {
	t.Helper()
	e := x.Add(p)
	if x.Held() > room {
		t.Fatalf("Held %d of a room of %d", x.Held(), room)
	}
	return e
}

// never: P10.5: nothing is ready, so there is room for what is just behind the cumulative TSN.
func (s *sender) never(t *testing.T, x *Inbox, room int) {
	t.Helper()
	if p := s.next(x); x.Ready() == 0 {
		if held, e := x.Held(), hand(t, x, p, room); e != api.OK {
			t.Fatalf("Add(the next one, %d, of %d bytes): %d; held %d of a room of %d", p.Tsn, len(p.Data), e, held, room)
		}
	}
}

// P10.4, P10.5: what is sent comes by chance, early, late, and twice, and is sent again where it found no room.
func TestWellBehaved(t *testing.T) {
	d := dice()
	for i := range 3000 {
		most := 1 + d.IntN(30)
		room, size := most+d.IntN(5*most), 1+d.IntN(most)
		if i%5 == 0 {
			room = most
		}
		s := newSender(d, bases()[d.IntN(len(bases()))], 1+d.IntN(60), 1+d.IntN(4), most, size, i%2 == 0)
		x := New(4, room, most, s.base)
		for ahead := 1 + d.IntN(40); !s.over(x); {
			at := int(x.Cum()-s.base) + d.IntN(ahead)
			switch d.IntN(10) {
			case 0:
				s.takes(t, x)
			case 1:
				s.takesAll(t, x)
			case 2:
				s.never(t, x, room)
			case 3:
				if back := at - ahead; back >= 0 {
					adds(t, x, s.pieces[back], api.ErrNone)
				}
			default:
				if at < len(s.pieces) {
					hand(t, x, s.pieces[at], room)
				}
			}
		}
		s.ended(t, x)
	}
}

// P10.4: a few pieces in each order, with room for them.
func TestEachOrder(t *testing.T) {
	for i := range 8 {
		order := []int{0, 1, 2, 3, 4, 5}
		permute(order, 0, func() {
			s := sixPieces(i)
			x := New(2, 1000, 100, s.base)
			for _, at := range order {
				adds(t, x, s.pieces[at], api.OK)
				adds(t, x, s.pieces[at], api.ErrNone)
			}
			s.ended(t, x)
		})
	}
}

// sixPieces are three to six messages on two streams in six pieces, otherwise for each number below 8.
func sixPieces(i int) *sender {
	s := &sender{base: 1<<32 - 3, turns: map[uint16][]int{}}
	next := [2]uint16{}
	for n := 0; len(s.pieces) < 6; n++ {
		size := min([]int{1, 2, 3, 1, 2}[(i+n)%5], 6-len(s.pieces))
		sid, loose := uint16((i/2+n)%2), (i+n)%4 == 3
		ssn := next[sid]
		if !loose {
			next[sid]++
		}
		s.send(sid, loose, []byte("abc")[:size], 1, ssn)
	}
	return s
}

func permute(l []int, from int, with func()) {
	if from == len(l) {
		with()
	}
	for i := from; i < len(l); i++ {
		l[from], l[i] = l[i], l[from]
		permute(l, from+1, with)
		l[from], l[i] = l[i], l[from]
	}
}

// P10.5: a few pieces of messages of at most three bytes in each order, in each room from three bytes on: before each one that comes, what is ready
// is taken, and the one just behind the cumulative TSN has room.
func TestNextHasRoom(t *testing.T) {
	for i := range 8 {
		for room := 3; room <= 9; room++ {
			for upTo := range 6 {
				order := []int{0, 1, 2, 3, 4, 5}
				permute(order, 0, func() {
					s := sixPieces(i)
					x := New(2, room, 3, s.base)
					for _, at := range order[:upTo] {
						hand(t, x, s.pieces[at], room)
					}
					for !s.over(x) {
						s.takesAll(t, x)
						s.never(t, x, room)
					}
					s.ended(t, x)
				})
			}
		}
	}
}

// P10.5: a room of just a message: nothing but the next one has room, and that always.
func TestRoomOfOne(t *testing.T) {
	for _, most := range []int{1, 2, 100, 8192, 1048576} {
		s := newSender(dice(), 1<<32-5, 12, 2, most, 1+most/3, true)
		x := New(2, most, most, s.base)
		for !s.over(x) {
			for at := int(x.Cum()-s.base) + 1; at < len(s.pieces); at++ {
				adds(t, x, s.pieces[at], api.ErrFull)
			}
			s.takesAll(t, x)
			s.never(t, x, most)
		}
		s.ended(t, x)
	}
}

// P10.4: as many messages as make Ssns go round more than twice, and TSNs once, from far ahead; some are too far at first.
func TestRoundAndRound(t *testing.T) {
	d := dice()
	s := newSender(d, 1<<32-70000, 150000, 1, 2, 1, false)
	x := New(1, 1048576, 2, s.base)
	far := 0
	for !s.over(x) {
		at := int(x.Cum() - s.base)
		for range 20 {
			if ahead := at + d.IntN(20000); ahead < len(s.pieces) {
				hand(t, x, s.pieces[ahead], 1048576)
			}
		}
		if tooFar := int(x.Cum()-s.base) + 65535; tooFar < len(s.pieces) {
			adds(t, x, s.pieces[tooFar], api.ErrNone)
			far++
		}
		if !s.over(x) {
			adds(t, x, s.next(x), api.OK)
		}
		if d.IntN(3) == 0 {
			s.takesAll(t, x)
		}
	}
	s.ended(t, x)
	if far == 0 {
		t.Fatal("none was too far")
	}
}

// P10.3: many messages are ready, and each that is taken makes room for another one: none is gone over again for that.
func TestManyReady(t *testing.T) {
	const many = 500000
	x := New(1, many, 0, 0)
	tsn := uint32(0)
	add := func() {
		adds(t, x, whole(tsn+1, 0, uint16(tsn), string(rune('a'+tsn%26))), api.OK)
		tsn++
	}
	for range many {
		add()
	}
	adds(t, x, whole(tsn+1, 0, uint16(tsn), "x"), api.ErrFull)
	for i := range many {
		tells(t, x, string(rune('a'+i%26)))
		stands(t, x, tsn, many-1, many-1, 1)
		add()
	}
	stands(t, x, 2*many, many, many, 0)
}

// P10.2: as many messages as there may be wait for one, and become ready with it.
func TestManyWait(t *testing.T) {
	x := New(1, 1048576, 6, 0)
	for ssn := 32767; ssn > 0; ssn-- {
		adds(t, x, whole(uint32(ssn)+1, 0, uint16(ssn), strconv.Itoa(ssn)), api.OK)
	}
	stands(t, x, 0, 0, 152729, 895841)
	adds(t, x, whole(1, 0, 0, "0"), api.OK)
	stands(t, x, 32768, 32768, 152730, 895840)
	for ssn := range 32768 {
		tells(t, x, strconv.Itoa(ssn))
	}
	tellsNone(t, x)
	stands(t, x, 32768, 0, 0, 1048570)
}

// P10.3: a message that was taken is not there any more, nor are its bytes, though others behind it are still ready.
func TestTakenIsNoMore(t *testing.T) {
	x := New(1, 10000, 100, 0)
	for i := range uint32(4) {
		adds(t, x, long(4-i, 0, uint16(3-i), 100), api.OK)
	}
	for left := 3; left >= 0; left-- {
		bytes := takenBytes(x)
		runtime.GC()
		if bytes.Value() != nil || x.Ready() != left {
			t.Fatalf("Ready %d; the bytes of the message that was taken are kept", x.Ready())
		}
	}
	runtime.KeepAlive(x)
}

func takenBytes(x *Inbox) weak.Pointer[byte] {
	m, _ := x.Recv()
	return weak.Make(&m.Data[0])
}
