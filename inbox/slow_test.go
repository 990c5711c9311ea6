package inbox

import (
	"bytes"
	"fmt"
	"math/rand/v2"
	"slices"
	"testing"

	"lanyard/api"
)

// slowWay is the way of chapter 7 in numbers that do not go round.
func slowWay(a, b, all int64) int64 {
	return ((b-a)%all + all) % all
}

// slowBefore: whether a is before b, of so many numbers.
func slowBefore(a, b, all int64) bool {
	w := slowWay(a, b, all)
	return 1 <= w && w <= all/2-1
}

type waits struct {
	ssn uint16
	m   api.Message
}

// slow is an inbox as the words of chapters 8 to 10 say it, with all of it in lists.
type slow struct {
	streams, room, most int
	cum                 uint32
	came, dups          []uint32
	kept                []api.Piece
	next                map[uint16]int64
	waiting             []waits
	ready               []api.Message
}

func newSlow(streams uint16, room, most int, cum uint32) *slow {
	counts := func(n int) int {
		switch {
		case n < 0:
			return 0
		case n > 1048576:
			return 1048576
		}
		return n
	}
	return &slow{streams: int(streams), room: counts(room), most: counts(most), cum: cum, next: map[uint16]int64{}}
}

func (s *slow) way(tsn uint32) int64 { return slowWay(int64(s.cum), int64(tsn), 1<<32) }

func (s *slow) there(tsn uint32) bool {
	return s.way(tsn) == 0 || slowBefore(int64(tsn), int64(s.cum), 1<<32) || slices.Contains(s.came, tsn)
}

func (s *slow) held() (n int) {
	for _, p := range s.kept {
		n += len(p.Data)
	}
	for _, w := range s.waiting {
		n += len(w.m.Data)
	}
	for _, m := range s.ready {
		n += len(m.Data)
	}
	return n
}

func (s *slow) rwnd() int {
	if n := s.room - s.most - s.held(); n > 0 {
		return n
	}
	return 0
}

func (s *slow) add(p api.Piece) api.Errno {
	if len(p.Data) == 0 {
		return api.ErrArg
	}
	if s.there(p.Tsn) {
		if len(s.dups) < 16 {
			s.dups = append(s.dups, p.Tsn)
		}
		return api.ErrNone
	}
	if s.way(p.Tsn) > 65535 {
		return api.ErrNone
	}
	if s.held()+len(p.Data) > s.room {
		return api.ErrFull
	}
	if s.way(p.Tsn) != 1 && s.held()+len(p.Data) > s.room-s.most {
		return api.ErrFull
	}
	s.comes(p.Tsn)
	if int(p.Sid) >= s.streams {
		return api.ErrStream
	}
	p.Data = append([]byte(nil), p.Data...)
	s.kept = append(s.kept, p)
	if m, ssn, whole := s.join(p.Tsn); whole {
		s.deal(m, ssn)
	}
	return api.OK
}

func (s *slow) comes(tsn uint32) {
	s.came = append(s.came, tsn)
	for i := 0; i >= 0; {
		i = slices.IndexFunc(s.came, func(x uint32) bool { return s.way(x) == 1 })
		if i >= 0 {
			s.cum = s.came[i]
			s.came = slices.Delete(s.came, i, i+1)
		}
	}
}

func (s *slow) at(tsn uint32) int {
	return slices.IndexFunc(s.kept, func(p api.Piece) bool { return p.Tsn == tsn })
}

// isMessage: whether pieces whose TSNs are one behind the other are a message.
func isMessage(l []api.Piece) bool {
	for i, p := range l {
		if (p.Flags/2%2 == 1) != (i == 0) || (p.Flags%2 == 1) != (i == len(l)-1) {
			return false
		}
		if p.Sid != l[0].Sid || p.Ssn != l[0].Ssn || p.Flags/4%2 != l[0].Flags/4%2 {
			return false
		}
	}
	return true
}

// join tries each row of kept pieces that the one of that TSN is in.
func (s *slow) join(tsn uint32) (m api.Message, ssn uint16, whole bool) {
	for back := uint32(0); s.at(tsn-back) >= 0; back++ {
		var row []api.Piece
		for at := s.at(tsn - back); at >= 0; at = s.at(tsn - back + uint32(len(row))) {
			row = append(row, s.kept[at])
			if len(row) <= int(back) || !isMessage(row) {
				continue
			}
			m = api.Message{Sid: row[0].Sid, Unordered: row[0].Flags/4%2 == 1, Ppid: row[0].Ppid}
			for _, p := range row {
				m.Data = append(m.Data, p.Data...)
				i := s.at(p.Tsn)
				s.kept = slices.Delete(s.kept, i, i+1)
			}
			return m, row[0].Ssn, true
		}
	}
	return
}

func (s *slow) waitsAt(sid, ssn uint16) int {
	return slices.IndexFunc(s.waiting, func(w waits) bool { return w.m.Sid == sid && w.ssn == ssn })
}

func (s *slow) deal(m api.Message, ssn uint16) {
	next := s.next[m.Sid]
	switch {
	case m.Unordered:
		s.ready = append(s.ready, m)
	case int64(ssn) == next:
		s.ready = append(s.ready, m)
		next = (next + 1) % 65536
		for at := s.waitsAt(m.Sid, uint16(next)); at >= 0; at = s.waitsAt(m.Sid, uint16(next)) {
			s.ready = append(s.ready, s.waiting[at].m)
			s.waiting = slices.Delete(s.waiting, at, at+1)
			next = (next + 1) % 65536
		}
		s.next[m.Sid] = next
	case slowBefore(next, int64(ssn), 65536) && s.waitsAt(m.Sid, ssn) < 0:
		s.waiting = append(s.waiting, waits{ssn, m})
	}
}

func (s *slow) recv() (m api.Message, is bool) {
	if len(s.ready) == 0 {
		return
	}
	m, s.ready = s.ready[0], s.ready[1:]
	return m, true
}

func (s *slow) gaps() (l []api.Gap) {
	there := map[int64]bool{}
	for _, tsn := range s.came {
		there[s.way(tsn)] = true
	}
	last := int64(0)
	for w := range there {
		last = max(last, w)
	}
	for w := int64(1); w <= last; w++ {
		if there[w] && !there[w-1] {
			l = append(l, api.Gap{Start: uint16(w)})
		}
		if there[w] && !there[w+1] {
			l[len(l)-1].End = uint16(w)
		}
	}
	return l[:min(len(l), 64)]
}

func (s *slow) sack() api.Chunk {
	c := api.Chunk{Kind: 3, Tsn: s.cum, Rwnd: uint32(s.rwnd()), Gaps: s.gaps(), Dups: s.dups}
	s.dups = nil
	return c
}

// both is an inbox, and the words beside it: whatever is asked is asked of both, and told where they differ.
type both struct {
	t     *testing.T
	x     *Inbox
	s     *slow
	calls []func() string
}

func newBoth(t *testing.T, streams uint16, room, most int, cum uint32) *both {
	b := &both{t: t, x: New(streams, room, most, cum), s: newSlow(streams, room, most, cum)}
	b.note(func() string { return fmt.Sprintf("New(%d, %d, %d, %d)", streams, room, most, cum) })
	b.alike()
	return b
}

// note writes a call down; what is said of it is made when it is wanted.
func (b *both) note(say func() string) {
	if len(b.calls) == 1000 {
		b.calls = append(b.calls[:0], b.calls[900:]...)
	}
	b.calls = append(b.calls, say)
}

func (b *both) fail(form string, more ...any) {
	b.t.Helper()
	for _, call := range b.calls {
		b.t.Log(call())
	}
	b.t.Fatalf(form, more...)
}

// alike holds all that is told without changing anything against the words.
func (b *both) alike() {
	b.t.Helper()
	x, s := b.x, b.s
	if x.Cum() != s.cum || x.Ready() != len(s.ready) || x.Held() != s.held() || x.Rwnd() != uint32(s.rwnd()) {
		b.fail("Cum %d, Ready %d, Held %d, Rwnd %d; want %d, %d, %d, %d", x.Cum(), x.Ready(), x.Held(), x.Rwnd(), s.cum, len(s.ready), s.held(), s.rwnd())
	}
	if x.Held() > s.room {
		b.fail("Held %d of a room of %d", x.Held(), s.room)
	}
}

func (b *both) add(p api.Piece) api.Errno {
	b.t.Helper()
	b.note(func() string {
		return fmt.Sprintf("Add(%d, flags %d, %d-%d, %.20q: %d bytes)", p.Tsn, p.Flags, p.Sid, p.Ssn, p.Data, len(p.Data))
	})
	e, want := b.x.Add(p), b.s.add(p)
	if e != want {
		b.fail("%d, want %d", e, want)
	}
	b.alike()
	return e
}

func sameMessage(a, b api.Message) bool {
	return a.Sid == b.Sid && a.Unordered == b.Unordered && a.Ppid == b.Ppid && bytes.Equal(a.Data, b.Data)
}

func (b *both) recv() (api.Message, bool) {
	b.t.Helper()
	b.note(func() string { return "Recv" })
	m, is := b.x.Recv()
	want, wantIs := b.s.recv()
	if is != wantIs || !sameMessage(m, want) {
		b.fail("%v, %v; want %v, %v", m, is, want, wantIs)
	}
	b.alike()
	return m, is
}

func (b *both) sack() {
	b.t.Helper()
	b.note(func() string { return "Sack" })
	if c, want := b.x.Sack(), b.s.sack(); !sameChunk(c, want) {
		b.fail("%v, want %v", c, want)
	}
	b.alike()
}

func sameChunk(a, b api.Chunk) bool {
	if !slices.Equal(a.Gaps, b.Gaps) || !slices.Equal(a.Dups, b.Dups) {
		return false
	}
	none := len(a.Data)+len(a.Addrs)+len(a.Causes) == 0 && len(b.Data)+len(b.Addrs)+len(b.Causes) == 0
	return none && a.Kind == b.Kind && a.Flags == b.Flags && a.Tag == b.Tag && a.Rwnd == b.Rwnd && a.Tsn == b.Tsn &&
		a.Out == b.Out && a.In == b.In && a.Sid == b.Sid && a.Ssn == b.Ssn && a.Ppid == b.Ppid
}

// all takes what is ready.
func (b *both) all() {
	b.t.Helper()
	for is := true; is; {
		_, is = b.recv()
	}
}

func dice() *rand.Rand { return rand.New(rand.NewPCG(10, 1048576)) }

// bases are cumulative TSNs about which numbers go round, or change their sign.
func bases() []uint32 {
	return []uint32{0, 1, 7, 65534, 65535, 1<<31 - 65536, 1<<31 - 2, 1<<31 - 1, 1 << 31, 1<<32 - 65536, 1<<32 - 4, 1<<32 - 2, 1<<32 - 1}
}

// whole is a message of one piece.
func whole(tsn uint32, sid, ssn uint16, data string) api.Piece {
	return api.Piece{Tsn: tsn, Flags: api.FlBegin | api.FlEnd, Sid: sid, Ssn: ssn, Data: []byte(data)}
}

// loose is a message of one piece, out of order.
func loose(tsn uint32, sid, ssn uint16, data string) api.Piece {
	p := whole(tsn, sid, ssn, data)
	p.Flags |= api.FlUnordered
	return p
}

// part is a piece of a message that is longer.
func part(tsn uint32, flags uint8, sid, ssn uint16, data string) api.Piece {
	return api.Piece{Tsn: tsn, Flags: flags, Sid: sid, Ssn: ssn, Data: []byte(data)}
}

// noughts are the bytes of long messages; nobody writes into them.
var noughts = make([]byte, 1048580)

// long is a message of one piece, of so many bytes 0.
func long(tsn uint32, sid, ssn uint16, n int) api.Piece {
	return api.Piece{Tsn: tsn, Flags: api.FlBegin | api.FlEnd, Sid: sid, Ssn: ssn, Data: noughts[:n:n]}
}
