package frag

import (
	"bytes"
	"math/rand/v2"
	"slices"
	"testing"

	"lanyard/api"
)

// slow is a joiner as the chapter's words say it: what is kept stands in the order in which it came.
type slow struct{ kept []api.Piece }

// isMessage: whether the row is a message, by the chapter's words.
func isMessage(l []api.Piece) bool {
	for i, p := range l {
		if (uint64(l[0].Tsn)+uint64(i))%(1<<32) != uint64(p.Tsn) {
			return false
		}
		if (p.Flags/2%2 == 1) != (i == 0) || (p.Flags%2 == 1) != (i == len(l)-1) {
			return false
		}
		if p.Sid != l[0].Sid || p.Ssn != l[0].Ssn || p.Flags/4%2 != l[0].Flags/4%2 {
			return false
		}
	}
	return len(l) > 0
}

func (s *slow) at(tsn uint32) int {
	return slices.IndexFunc(s.kept, func(p api.Piece) bool { return p.Tsn == tsn })
}

// row: the pieces that are kept from one TSN on, if all of them are.
func (s *slow) row(from uint32, n int) (l []api.Piece) {
	for i := range n {
		at := s.at(from + uint32(i))
		if at < 0 {
			return nil
		}
		l = append(l, s.kept[at])
	}
	return l
}

// put tries each row that the piece is in.
func (s *slow) put(p api.Piece) (m api.Message, ssn uint16, whole bool) {
	if s.at(p.Tsn) >= 0 {
		return
	}
	p.Data = append([]byte(nil), p.Data...)
	s.kept = append(s.kept, p)
	for n := 1; n <= len(s.kept); n++ {
		for back := range n {
			l := s.row(p.Tsn-uint32(back), n)
			if !isMessage(l) {
				continue
			}
			m = api.Message{Sid: l[0].Sid, Unordered: l[0].Flags/4%2 == 1, Ppid: l[0].Ppid}
			for _, x := range l {
				m.Data = append(m.Data, x.Data...)
				at := s.at(x.Tsn)
				s.kept = slices.Delete(s.kept, at, at+1)
			}
			return m, l[0].Ssn, true
		}
	}
	return
}

func (s *slow) held() (n int) {
	for _, p := range s.kept {
		n += len(p.Data)
	}
	return n
}

func dice() *rand.Rand { return rand.New(rand.NewPCG(9, 8192)) }

// bases are TSNs about which numbers go round, or change their sign.
func bases() []uint32 {
	return []uint32{0, 1, 7, 65534, 65535, 1<<31 - 2, 1<<31 - 1, 1 << 31, 1<<32 - 4, 1<<32 - 3, 1<<32 - 2, 1<<32 - 1}
}

func sameMessage(a, b api.Message) bool {
	return a.Sid == b.Sid && a.Unordered == b.Unordered && a.Ppid == b.Ppid && bytes.Equal(a.Data, b.Data)
}

// putBoth holds what is told of a piece, and what is kept then, against the words.
func putBoth(t *testing.T, j *Joiner, s *slow, p api.Piece) bool {
	t.Helper()
	had := s.kept
	m, ssn, whole := j.Put(p)
	wantM, wantSsn, wantWhole := s.put(p)
	if !sameMessage(m, wantM) || ssn != wantSsn || whole != wantWhole {
		t.Fatalf("of %v Put(%v): %v, %d, %v; want %v, %d, %v", had, p, m, ssn, whole, wantM, wantSsn, wantWhole)
	}
	if j.Held() != s.held() || j.Len() != len(s.kept) {
		t.Fatalf("of %v Put(%v): Held %d, Len %d; want %d, %d", had, p, j.Held(), j.Len(), s.held(), len(s.kept))
	}
	return whole
}

func none(t *testing.T, j *Joiner, p api.Piece) {
	t.Helper()
	if m, ssn, whole := j.Put(p); whole || ssn != 0 || !sameMessage(m, api.Message{}) || m.Data != nil {
		t.Fatalf("Put(%v): %v, %d, %v", p, m, ssn, whole)
	}
}

func told(t *testing.T, j *Joiner, p api.Piece, want api.Message, wantSsn uint16) {
	t.Helper()
	if m, ssn, whole := j.Put(p); !whole || ssn != wantSsn || !sameMessage(m, want) {
		t.Fatalf("Put(%v): %v, %d, %v; want %v, %d", p, m, ssn, whole, want, wantSsn)
	}
}

func keeps(t *testing.T, j *Joiner, pieces, held int) {
	t.Helper()
	if j.Len() != pieces || j.Held() != held {
		t.Fatalf("Len %d, Held %d; want %d, %d", j.Len(), j.Held(), pieces, held)
	}
}

func text(tsn uint32, flags uint8, data string) api.Piece {
	return api.Piece{Tsn: tsn, Flags: flags, Data: []byte(data)}
}

func words(data string) api.Message { return api.Message{Data: []byte(data)} }

// P9.2, P9.3: the chapter's examples.
func TestPutExamples(t *testing.T) {
	j := New()
	keeps(t, j, 0, 0)
	none(t, j, text(8, 0, "cd"))
	none(t, j, text(9, api.FlEnd, "e"))
	keeps(t, j, 2, 3)
	told(t, j, text(7, api.FlBegin, "ab"), words("abcde"), 0)
	keeps(t, j, 0, 0)
	told(t, j, text(4, api.FlBegin|api.FlEnd, "x"), words("x"), 0)
	keeps(t, j, 0, 0)
}

// What is asked of no joiner.
func TestNil(t *testing.T) {
	var j *Joiner
	for flags := range 256 {
		none(t, j, text(uint32(flags), uint8(flags), "x"))
	}
	none(t, j, api.Piece{})
	keeps(t, j, 0, 0)
}

// P9.2: each New is a joiner by itself.
func TestNew(t *testing.T) {
	a, b := New(), New()
	none(t, a, text(1, api.FlBegin, "a"))
	keeps(t, b, 0, 0)
	none(t, b, text(2, api.FlEnd, "bc"))
	keeps(t, a, 1, 1)
	keeps(t, b, 1, 2)
	told(t, a, text(2, api.FlEnd, "d"), words("ad"), 0)
	keeps(t, b, 1, 2)
}

// P9.2: a message in one piece, with each flag and field, also those that no message gives.
func TestOnePiece(t *testing.T) {
	for _, tsn := range bases() {
		j := New()
		for flags := range 256 {
			p := api.Piece{Tsn: tsn, Flags: uint8(flags), Sid: 65535, Ssn: uint16(flags) + 65300, Ppid: 1<<32 - 2, Data: []byte("one")}
			if flags%4 != 3 {
				single := New()
				none(t, single, p)
				keeps(t, single, 1, 3)
				continue
			}
			told(t, j, p, api.Message{Sid: 65535, Unordered: flags/4%2 == 1, Ppid: 1<<32 - 2, Data: []byte("one")}, p.Ssn)
			keeps(t, j, 0, 0)
		}
	}
}

// orders calls with each order of the numbers below n.
func orders(n int, with func([]int)) {
	l := make([]int, n)
	for i := range l {
		l[i] = i
	}
	var from func(int)
	from = func(i int) {
		if i == n {
			with(l)
		}
		for k := i; k < n; k++ {
			l[i], l[k] = l[k], l[i]
			from(i + 1)
			l[i], l[k] = l[k], l[i]
		}
	}
	from(0)
}

// eachOrder puts the pieces in each order, held against the words.
func eachOrder(t *testing.T, l []api.Piece) {
	t.Helper()
	orders(len(l), func(order []int) {
		j, s := New(), &slow{}
		for _, i := range order {
			putBoth(t, j, s, l[i])
		}
	})
}

// rowOf: pieces one behind the other, each with its flags and bytes of its own.
func rowOf(tsn uint32, flags ...uint8) (l []api.Piece) {
	for i, f := range flags {
		l = append(l, api.Piece{Tsn: tsn + uint32(i), Flags: f, Sid: 1, Ssn: 6, Ppid: uint32(i) + 10, Data: row(30)[4*i : 5*i+1]})
	}
	return l
}

// P9.2: each row of up to five pieces by where they begin and end, in each order.
func TestBeginsAndEnds(t *testing.T) {
	for n, many := 1, 4; n <= 5; n, many = n+1, many*4 {
		for x := range many {
			var flags []uint8
			for i := range n {
				flags = append(flags, uint8(x>>(2*i)&3))
			}
			eachOrder(t, rowOf(1<<32-2, flags...))
		}
	}
}

// P9.2: each row of three pieces with every flag, one of which may be of another stream, or have another Ssn.
func TestRowsOfThree(t *testing.T) {
	for x := range 512 {
		for odd := range 4 {
			for _, other := range []api.Piece{{Sid: 2, Ssn: 6}, {Sid: 1, Ssn: 7}, {Sid: 6, Ssn: 1}, {Sid: 257, Ssn: 6}, {Sid: 1, Ssn: 262}} {
				l := rowOf(1<<31-2, uint8(x&7), uint8(x>>3&7), uint8(x>>6))
				if odd < 3 {
					l[odd].Sid, l[odd].Ssn = other.Sid, other.Ssn
				}
				eachOrder(t, l)
			}
		}
	}
}

// P9.2: pieces that stand one behind the other and are no message, written out; none of them is told, whichever comes last.
func TestNoMessage(t *testing.T) {
	end := func(change func(l []api.Piece)) {
		t.Helper()
		for _, unordered := range []uint8{0, api.FlUnordered} {
			l := rowOf(1<<32-1, unordered|api.FlBegin, unordered, unordered, unordered|api.FlEnd)
			change(l)
			orders(len(l), func(order []int) {
				j := New()
				for _, i := range order {
					none(t, j, l[i])
				}
				keeps(t, j, 4, 10)
			})
		}
	}
	for i := range 4 {
		end(func(l []api.Piece) { l[i].Sid++ })
		end(func(l []api.Piece) { l[i].Ssn-- })
		end(func(l []api.Piece) { l[i].Flags ^= api.FlUnordered })
		for k := range i {
			end(func(l []api.Piece) { l[i].Sid, l[k].Sid = 9, 9 })
			end(func(l []api.Piece) { l[i].Ssn, l[k].Ssn = 9, 9 })
			end(func(l []api.Piece) { l[i].Flags ^= api.FlUnordered; l[k].Flags ^= api.FlUnordered })
		}
	}
	end(func(l []api.Piece) { l[0].Flags &^= api.FlBegin })
	end(func(l []api.Piece) { l[3].Flags &^= api.FlEnd })
	end(func(l []api.Piece) { l[0].Flags ^= api.FlBegin | api.FlEnd })
	end(func(l []api.Piece) { l[3].Flags ^= api.FlBegin | api.FlEnd })
	end(func(l []api.Piece) { l[2].Tsn += 1 << 16 })
	end(func(l []api.Piece) { l[3].Tsn += 1 << 31 })
	end(func(l []api.Piece) { l[3].Tsn++ })
	end(func(l []api.Piece) { l[0].Tsn-- })
	end(func(l []api.Piece) { l[1].Tsn, l[2].Tsn = 100, 200 })
}

// P9.2: a begin or an end within a row leaves what stands at its other side, and takes only its own message.
func TestWithin(t *testing.T) {
	for _, tsn := range bases() {
		j := New()
		l := rowOf(tsn, api.FlBegin, 0, api.FlBegin, api.FlEnd, 0, api.FlEnd)
		for _, i := range []int{0, 5, 1, 4, 3} {
			none(t, j, l[i])
		}
		told(t, j, l[2], api.Message{Sid: 1, Ppid: 12, Data: append(append([]byte(nil), l[2].Data...), l[3].Data...)}, 6)
		keeps(t, j, 4, 1+2+5+6)
		none(t, j, text(tsn+2, 0, ""))
		none(t, j, text(tsn+3, 0, ""))
		keeps(t, j, 6, 14)
	}
}

// P9.2: in messages of one Sid and one Ssn just behind each other each is told by itself.
func TestNeighbours(t *testing.T) {
	for _, tsn := range bases() {
		eachOrder(t, rowOf(tsn, 2, 1, 3, 2, 0, 1))
		eachOrder(t, rowOf(tsn, 6, 5, 2, 1, 7, 3))
	}
}

// P9.2: the Ppid is the first piece's, the Ssn that of all; what other flags say is nothing to a message.
func TestFieldsOfAMessage(t *testing.T) {
	for _, tsn := range bases() {
		orders(3, func(order []int) {
			l := []api.Piece{
				{Tsn: tsn, Flags: api.FlBegin | 8, Sid: 65535, Ssn: 65534, Ppid: 1<<32 - 1, Data: []byte("a")},
				{Tsn: tsn + 1, Flags: 128, Sid: 65535, Ssn: 65534, Ppid: 5, Data: []byte("b")},
				{Tsn: tsn + 2, Flags: api.FlEnd | 64 | 16, Sid: 65535, Ssn: 65534, Data: []byte("c")},
			}
			j := New()
			none(t, j, l[order[0]])
			none(t, j, l[order[1]])
			told(t, j, l[order[2]], api.Message{Sid: 65535, Ppid: 1<<32 - 1, Data: []byte("abc")}, 65534)
		})
	}
}

// P9.2: pieces out of order are a message too, if all of them are, and have one Ssn, whichever.
func TestUnordered(t *testing.T) {
	j := New()
	l := rowOf(1<<32-1, 6, 4, 5)
	none(t, j, l[2])
	none(t, j, l[0])
	keeps(t, j, 2, 4)
	told(t, j, l[1], api.Message{Sid: 1, Unordered: true, Ppid: 10, Data: slices.Concat(l[0].Data, l[1].Data, l[2].Data)}, 6)
	keeps(t, j, 0, 0)
	l[2].Ssn = 0
	for _, p := range l {
		none(t, j, p)
	}
	keeps(t, j, 3, 6)
}

// P9.2: a piece whose TSN is kept does nothing, whatever else it has: also one that would make a message whole.
func TestTwice(t *testing.T) {
	for _, tsn := range bases() {
		j := New()
		none(t, j, text(tsn, api.FlBegin, "ab"))
		none(t, j, text(tsn, api.FlBegin, "ab"))
		none(t, j, text(tsn, api.FlBegin, "longer"))
		none(t, j, text(tsn, api.FlBegin, ""))
		none(t, j, text(tsn, api.FlBegin|api.FlEnd, "whole"))
		keeps(t, j, 1, 2)
		none(t, j, text(tsn+1, 0, "cd"))
		none(t, j, text(tsn+1, api.FlEnd, "xy"))
		none(t, j, api.Piece{Tsn: tsn + 1, Flags: api.FlBegin | api.FlEnd, Sid: 3, Ssn: 4, Ppid: 5, Data: []byte("z")})
		keeps(t, j, 2, 4)
		told(t, j, text(tsn+2, api.FlEnd, "e"), words("abcde"), 0)
		keeps(t, j, 0, 0)
	}
}

// P9.2: what was told is kept no more: its TSNs may come again, and what comes then is kept, or told, anew.
func TestAgain(t *testing.T) {
	for _, tsn := range bases() {
		j := New()
		for _, data := range []string{"x", "x", "other", ""} {
			told(t, j, text(tsn, 3, data), words(data), 0)
		}
		for range 3 {
			none(t, j, text(tsn+1, api.FlEnd, "b"))
			none(t, j, text(tsn+1, api.FlEnd, "c"))
			keeps(t, j, 1, 1)
			told(t, j, text(tsn, api.FlBegin, "a"), words("ab"), 0)
			keeps(t, j, 0, 0)
		}
		none(t, j, text(tsn, api.FlBegin, "a"))
		keeps(t, j, 1, 1)
	}
}

// P9.2, P9.3: pieces without bytes are kept and counted like others.
func TestNoBytes(t *testing.T) {
	j := New()
	none(t, j, api.Piece{})
	none(t, j, api.Piece{Tsn: 2})
	keeps(t, j, 2, 0)
	j = New()
	none(t, j, text(1<<32-1, api.FlBegin, ""))
	none(t, j, text(1, api.FlEnd, ""))
	keeps(t, j, 2, 0)
	told(t, j, text(0, 0, "mid"), words("mid"), 0)
	keeps(t, j, 0, 0)
	none(t, j, text(5, api.FlBegin, ""))
	told(t, j, text(6, api.FlEnd, ""), words(""), 0)
	keeps(t, j, 0, 0)
}

// P9.2: what is kept is in bytes of its own, and so is what is told.
func TestPutOwnBytes(t *testing.T) {
	for n := 1; n <= 4; n++ {
		flags := make([]uint8, n)
		flags[0] |= api.FlBegin
		flags[n-1] |= api.FlEnd
		orders(n, func(order []int) {
			j := New()
			l := rowOf(1<<32-2, flags...)
			var want, m api.Message
			for _, p := range l {
				want.Data = append(want.Data, p.Data...)
			}
			for _, i := range order {
				mine := bytes.Clone(l[i].Data)
				p := l[i]
				p.Data = mine
				m, _, _ = j.Put(p)
				if !bytes.Equal(mine, l[i].Data) {
					t.Fatalf("what was handed in was changed: %v", mine)
				}
				clear(mine)
			}
			if !bytes.Equal(m.Data, want.Data) {
				t.Fatalf("%v, want %v", m.Data, want.Data)
			}
		})
	}
}

// P9.2: what was told stays as it was, whatever comes then, and whatever is written into what came, or is told.
func TestToldOwnBytes(t *testing.T) {
	for _, flags := range [][]uint8{{3}, {2, 1}, {2, 0, 1}} {
		j := New()
		l := rowOf(4, flags...)
		put := func() (m api.Message) {
			for _, p := range l {
				m, _, _ = j.Put(p)
			}
			return m
		}
		a := put()
		want := bytes.Clone(a.Data)
		b := put()
		for _, p := range l {
			clear(p.Data)
		}
		put()
		if !bytes.Equal(a.Data, want) || !bytes.Equal(b.Data, want) {
			t.Fatalf("%v, %v; want %v", a.Data, b.Data, want)
		}
		for i := range a.Data {
			a.Data[i] = 255
		}
		if !bytes.Equal(b.Data, want) || bytes.Contains(l[0].Data, []byte{255}) {
			t.Fatalf("%v, %v", b.Data, l)
		}
		none(t, j, text(50, 0, "z"))
		keeps(t, j, 1, 1)
	}
}

// P9.2, P9.3: rows by chance, of few TSNs and few fields, each step held against the words.
func TestAgainstTheWords(t *testing.T) {
	r := dice()
	wholes := 0
	for _, base := range bases() {
		for _, most := range []uint32{2, 4, 7, 12} {
			for range 20 {
				j, s := New(), &slow{}
				for range 60 {
					p := api.Piece{Tsn: base + r.Uint32N(most), Flags: uint8(r.IntN(4)), Sid: 1, Ssn: 2, Ppid: r.Uint32N(3), Data: row(9)[:r.IntN(5)]}
					switch r.IntN(12) {
					case 0:
						p.Sid = 2
					case 1:
						p.Ssn = 1
					case 2:
						p.Flags |= api.FlUnordered
					case 3:
						p.Flags |= uint8(r.IntN(256)) &^ 7
					case 4:
						p.Tsn += 1 << (16 + r.IntN(16))
					}
					if putBoth(t, j, s, p) {
						wholes++
					}
				}
			}
		}
	}
	if wholes < 1000 {
		t.Errorf("no more than %d messages", wholes)
	}
}

// sent is a message, cut, with TSNs and an Ssn, and how many of its pieces did not come yet.
type sent struct {
	m    api.Message
	ssn  uint16
	left int
}

// traffic is what a sender would send of messages by chance: pieces, one TSN behind the other, and of each which message it is of.
func traffic(r *rand.Rand, tsn uint32, many int) (l []api.Piece, of []int, all []sent) {
	for i := range many {
		m := api.Message{Sid: uint16(r.IntN(2)), Unordered: r.IntN(3) == 0, Ppid: r.Uint32N(3), Data: row(i%50 + 100)[i%50:][:1+r.IntN(60)]}
		ssn := uint16(r.IntN(2)) + 65535
		if m.Unordered {
			ssn = 0
		}
		pieces, _ := Cut(m, 1+r.IntN(20))
		for _, p := range pieces {
			p.Tsn, p.Ssn = tsn, ssn
			tsn++
			l = append(l, p)
			of = append(of, i)
		}
		all = append(all, sent{m, ssn, len(pieces)})
	}
	return l, of, all
}

// P9.4: messages just behind each other, whose pieces come in whatever order, some of them twice: each is told as it was when its last one comes.
func TestMessagesComeWhole(t *testing.T) {
	r := dice()
	for _, base := range append(bases(), 1<<32-200, 1<<32-500) {
		for range 20 {
			j := New()
			l, of, all := traffic(r, base, 1+r.IntN(40))
			came := map[int]bool{}
			for _, i := range r.Perm(len(l)) {
				x := &all[of[i]]
				came[i] = true
				x.left--
				if x.left > 0 {
					none(t, j, l[i])
				} else {
					told(t, j, l[i], x.m, x.ssn)
				}
				if k := r.IntN(len(l)); came[k] && all[of[k]].left > 0 {
					none(t, j, l[k])
				}
				pieces, held := 0, 0
				for k := range came {
					if all[of[k]].left > 0 {
						pieces++
						held += len(l[k].Data)
					}
				}
				keeps(t, j, pieces, held)
			}
			keeps(t, j, 0, 0)
		}
	}
}

// P9.4: pieces of two messages between each other, whose TSNs are far apart, in each order.
func TestBetweenEachOther(t *testing.T) {
	one, _ := Cut(api.Message{Sid: 1, Ppid: 2, Data: []byte("one message")}, 4)
	two, _ := Cut(api.Message{Sid: 1, Unordered: true, Ppid: 3, Data: []byte("other one")}, 3)
	var l []api.Piece
	for i := range one {
		one[i].Tsn, one[i].Ssn = 1<<32-1+uint32(i), 9
		two[i].Tsn, two[i].Ssn = 1<<31-1+uint32(i), 9
		l = append(l, one[i], two[i])
	}
	orders(len(l), func(order []int) {
		j := New()
		left := []int{3, 3}
		for _, i := range order {
			left[i%2]--
			switch {
			case left[i%2] > 0:
				none(t, j, l[i])
			case i%2 == 0:
				told(t, j, l[i], api.Message{Sid: 1, Ppid: 2, Data: []byte("one message")}, 9)
			default:
				told(t, j, l[i], api.Message{Sid: 1, Unordered: true, Ppid: 3, Data: []byte("other one")}, 9)
			}
		}
		keeps(t, j, 0, 0)
	})
}

// longOrders are orders of so many pieces in which one that looks only back, or only on, would go a long way with each.
func longOrders(r *rand.Rand, n int) [][]int {
	var rising, falling, seconds, fromMiddle []int
	for i := range n {
		rising = append(rising, i)
		falling = append(falling, n-1-i)
		if i < n/2 {
			fromMiddle = append(fromMiddle, n/2-1-i, n/2+i)
		}
	}
	for i := 0; i < n; i += 2 {
		seconds = append(seconds, i)
	}
	for i := 1; i < n; i += 2 {
		seconds = append(seconds, i)
	}
	lastBegins := append(slices.Clone(falling[:n-1]), 0)
	firstEnds := append([]int{n - 1}, rising[:n-1]...)
	return [][]int{rising, falling, seconds, fromMiddle, lastBegins, firstEnds, r.Perm(n)}
}

// P9.4: one message of a great many pieces.
func TestLongMessage(t *testing.T) {
	const n = 100000
	m := api.Message{Sid: 2, Ppid: 1, Data: row(n)}
	l, _ := Cut(m, 1)
	for i := range l {
		l[i].Tsn, l[i].Ssn = 1<<32-n/2+uint32(i), 3
	}
	for _, order := range longOrders(dice(), n) {
		j := New()
		for _, i := range order[:n-1] {
			none(t, j, l[i])
		}
		keeps(t, j, n-1, n-1)
		told(t, j, l[order[n-1]], m, 3)
		keeps(t, j, 0, 0)
	}
}

// P9.3: many pieces that are no message stay, however many there are.
func TestManyKept(t *testing.T) {
	j := New()
	held := 0
	for i := range 70000 {
		p := api.Piece{Tsn: uint32(i) * 61356, Flags: uint8(i % 3), Data: row(9)[:i%10]}
		none(t, j, p)
		held += len(p.Data)
		keeps(t, j, i+1, held)
	}
}
