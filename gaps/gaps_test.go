package gaps

import (
	"math/rand/v2"
	"slices"
	"testing"

	"lanyard/api"
)

// slowWay is the way of chapter 7 in numbers that do not go round.
func slowWay(a, b uint32) int64 {
	x := int64(b) - int64(a)
	if x < 0 {
		x += 1 << 32
	}
	return x
}

func slowBefore(a, b uint32) bool {
	x := slowWay(a, b)
	return 1 <= x && x <= 2147483647
}

// slow is a set as the chapter's words say it: what came stands in the order in which it came.
type slow struct {
	cum  uint32
	came []uint32
	dups []uint32
}

func (s *slow) add(tsn uint32) uint8 {
	if slowWay(s.cum, tsn) > 65535 {
		if slowBefore(s.cum, tsn) || !slowBefore(tsn, s.cum) && tsn != s.cum {
			return 2
		}
	}
	if s.has(tsn) {
		s.dups = append(s.dups, tsn)
		return 1
	}
	s.came = append(s.came, tsn)
	for {
		i := slices.IndexFunc(s.came, func(x uint32) bool { return slowWay(s.cum, x) == 1 })
		if i < 0 {
			return 0
		}
		s.cum = s.came[i]
		s.came = slices.Delete(s.came, i, i+1)
	}
}

func (s *slow) has(tsn uint32) bool {
	return tsn == s.cum || slowBefore(tsn, s.cum) || slices.Contains(s.came, tsn)
}

func (s *slow) gaps() (l []api.Gap) {
	var there [65537]bool
	for _, tsn := range s.came {
		there[slowWay(s.cum, tsn)] = true
	}
	for w := 1; w <= 65535; w++ {
		if there[w] && !there[w-1] {
			l = append(l, api.Gap{Start: uint16(w)})
		}
		if there[w] && !there[w+1] {
			l[len(l)-1].End = uint16(w)
		}
	}
	return l[:min(len(l), 64)]
}

func (s *slow) takeDups() []uint32 {
	l := s.dups[:min(len(s.dups), 16)]
	s.dups = nil
	return l
}

func dice() *rand.Rand { return rand.New(rand.NewPCG(8, 65535)) }

// cums are cumulative TSNs at the edges of numbers that go round.
func cums() []uint32 {
	return []uint32{0, 1, 10, 65534, 65535, 65536, 1<<31 - 65536, 1<<31 - 2, 1<<31 - 1, 1 << 31, 1<<31 + 1, 1<<32 - 65537, 1<<32 - 65536, 1<<32 - 65535, 1<<32 - 3, 1<<32 - 2, 1<<32 - 1}
}

// edges are ways about which an answer turns.
func edges() []uint32 {
	return []uint32{0, 1, 2, 3, 4, 65533, 65534, 65535, 65536, 65537, 65538, 131071, 131072, 1<<31 - 2, 1<<31 - 1, 1 << 31, 1<<31 + 1, 1<<31 + 2, 1<<32 - 65537, 1<<32 - 65536, 1<<32 - 65535, 1<<32 - 3, 1<<32 - 2, 1<<32 - 1}
}

// alike holds all that is told without changing anything against the words.
func alike(t *testing.T, s *Set, w *slow) {
	t.Helper()
	if s.Cum() != w.cum || s.Len() != len(w.came) {
		t.Fatalf("Cum %d, Len %d; want %d, %d", s.Cum(), s.Len(), w.cum, len(w.came))
	}
	l := s.Gaps()
	if !slices.Equal(l, w.gaps()) {
		t.Fatalf("behind %d came %v: Gaps %v, want %v", w.cum, w.came, l, w.gaps())
	}
	apart(t, s, l)
	for _, way := range edges() {
		askOne(t, s, w, w.cum+way)
	}
	for _, tsn := range w.came[:min(len(w.came), 100)] {
		askOne(t, s, w, tsn-1)
		askOne(t, s, w, tsn)
		askOne(t, s, w, tsn+1)
	}
}

// apart: P8.5: nothing stands just behind the cumulative TSN, and two gaps never touch.
func apart(t *testing.T, s *Set, l []api.Gap) {
	t.Helper()
	if s.Has(s.Cum() + 1) {
		t.Fatalf("%d stands just behind the cumulative TSN", s.Cum()+1)
	}
	behind := 1
	for _, g := range l {
		if int(g.Start) <= behind || g.End < g.Start {
			t.Fatalf("gaps that touch, or are none: %v", l)
		}
		behind = int(g.End) + 1
	}
}

func askOne(t *testing.T, s *Set, w *slow, tsn uint32) {
	t.Helper()
	if s.Has(tsn) != w.has(tsn) {
		t.Fatalf("behind %d came %v: Has(%d) %v", w.cum, w.came, tsn, s.Has(tsn))
	}
	if s.Next(tsn) != (slowWay(w.cum, tsn) == 1) {
		t.Fatalf("behind %d: Next(%d) %v", w.cum, tsn, s.Next(tsn))
	}
}

func addBoth(t *testing.T, s *Set, w *slow, tsn uint32) uint8 {
	t.Helper()
	cum := w.cum
	x, want := s.Add(tsn), w.add(tsn)
	if x != want {
		t.Fatalf("behind %d: Add(%d): %d, want %d", cum, tsn, x, want)
	}
	return x
}

func dupsAlike(t *testing.T, s *Set, w *slow) {
	t.Helper()
	if x, want := s.Dups(), w.takeDups(); !slices.Equal(x, want) {
		t.Fatalf("Dups %v, want %v", x, want)
	}
}

func addIs(t *testing.T, s *Set, tsn uint32, want uint8) {
	t.Helper()
	if x := s.Add(tsn); x != want {
		t.Fatalf("behind %d: Add(%d): %d, want %d", s.Cum(), tsn, x, want)
	}
}

func gapsAre(t *testing.T, s *Set, want ...api.Gap) {
	t.Helper()
	if l := s.Gaps(); !slices.Equal(l, want) {
		t.Fatalf("behind %d: Gaps %v, want %v", s.Cum(), l, want)
	}
}

func dupsAre(t *testing.T, s *Set, want ...uint32) {
	t.Helper()
	if l := s.Dups(); !slices.Equal(l, want) {
		t.Fatalf("Dups %v, want %v", l, want)
	}
}

// P8.1 to P8.4: the chapter's examples, and the numbers of what Add tells.
func TestExamples(t *testing.T) {
	if Fresh != 0 || There != 1 || Far != 2 || MaxAhead != 65535 {
		t.Error("the package's constants")
	}
	s := New(10)
	addIs(t, s, 12, Fresh)
	addIs(t, s, 13, Fresh)
	addIs(t, s, 15, Fresh)
	gapsAre(t, s, api.Gap{Start: 2, End: 3}, api.Gap{Start: 5, End: 5})
	if s.Cum() != 10 {
		t.Error(s.Cum())
	}
	addIs(t, s, 11, Fresh)
	if s.Cum() != 13 {
		t.Error(s.Cum())
	}
	gapsAre(t, s, api.Gap{Start: 2, End: 2})
	addIs(t, s, 12, There)
	addIs(t, s, 15, There)
	dupsAre(t, s, 12, 15)
	dupsAre(t, s)
	addIs(t, s, 13+65536, Far)
	if !s.Has(15) || s.Has(14) || !s.Next(14) {
		t.Error("Has(15), Has(14), Next(14)")
	}
}

// What is asked of no set.
func TestNil(t *testing.T) {
	var s *Set
	for _, tsn := range append(cums(), edges()...) {
		if s.Add(tsn) != Far || s.Has(tsn) || s.Next(tsn) {
			t.Errorf("%d of nil", tsn)
		}
	}
	if s.Cum() != 0 || s.Len() != 0 || len(s.Gaps()) != 0 || len(s.Dups()) != 0 || s.Copy() != nil {
		t.Error("nil")
	}
}

// P8.1, P8.3: a new set has its cumulative TSN, and nothing behind it.
func TestNew(t *testing.T) {
	for _, cum := range cums() {
		s := New(cum)
		alike(t, s, &slow{cum: cum})
		gapsAre(t, s)
		dupsAre(t, s)
		if s.Copy().Cum() != cum || New(cum) == s {
			t.Fatalf("New(%d)", cum)
		}
	}
}

// P8.2: one TSN, by its way from the cumulative one, written out.
func TestAddByWay(t *testing.T) {
	for _, c := range []struct {
		way uint32
		x   uint8
	}{{0, There}, {1, Fresh}, {2, Fresh}, {3, Fresh}, {1000, Fresh}, {32767, Fresh}, {32768, Fresh}, {65534, Fresh}, {65535, Fresh},
		{65536, Far}, {65537, Far}, {131072, Far}, {1 << 30, Far}, {1<<31 - 2, Far}, {1<<31 - 1, Far}, {1 << 31, Far},
		{1<<31 + 1, There}, {1<<31 + 2, There}, {3 << 30, There}, {1<<32 - 65537, There}, {1<<32 - 65536, There}, {1<<32 - 65535, There}, {1<<32 - 2, There}, {1<<32 - 1, There}} {
		for _, cum := range cums() {
			s := New(cum)
			addIs(t, s, cum+c.way, c.x)
			afterOne(t, s, cum, c.way, c.x)
		}
	}
}

// afterOne: what is there behind one TSN that was told as x.
func afterOne(t *testing.T, s *Set, cum, way uint32, x uint8) {
	t.Helper()
	switch {
	case x == There:
		dupsAre(t, s, cum+way)
	case x == Fresh && way == 1:
		cum++
	case x == Fresh:
		if s.Len() != 1 || !s.Has(cum+way) {
			t.Fatalf("%d behind %d: Len %d", way, cum, s.Len())
		}
		gapsAre(t, s, api.Gap{Start: uint16(way), End: uint16(way)})
		addIs(t, s, cum+way, There)
		dupsAre(t, s, cum+way)
		return
	}
	alike(t, s, &slow{cum: cum})
	dupsAre(t, s)
}

// P8.2: a TSN that is too far leaves all as it is, with gaps and doubles there.
func TestFarChangesNothing(t *testing.T) {
	for _, cum := range cums() {
		s, w := New(cum), &slow{cum: cum}
		for _, way := range []uint32{2, 3, 65535, 7, 3} {
			addBoth(t, s, w, cum+way)
		}
		for _, way := range []uint32{65536, 65537, 65538, 1<<31 - 1, 1 << 31} {
			addIs(t, s, cum+way, Far)
			addIs(t, s, cum+way, Far)
			alike(t, s, w)
		}
		dupsAre(t, s, cum+3)
	}
}

// P8.2: what was too far is not any more when the cumulative TSN went on, and what was just half round away is far yet.
func TestFarGoesOn(t *testing.T) {
	for _, cum := range cums() {
		s := New(cum)
		for step := range uint32(5) {
			addIs(t, s, cum+step+65536, Far)
			addIs(t, s, cum+step+1<<31, Far)
			addIs(t, s, cum+step+1<<31+1, There)
			addIs(t, s, cum+step+1, Fresh)
			addIs(t, s, cum+step+65536, Fresh)
			addIs(t, s, cum+step+1<<31+1, Far)
		}
		gapsAre(t, s, api.Gap{Start: 65531, End: 65535})
	}
}

// P8.2: the next one takes along as many as came one behind the other, and no more.
func TestNextTakesAlong(t *testing.T) {
	for _, cum := range cums() {
		for run := range uint32(40) {
			s := New(cum)
			for i := range run {
				addIs(t, s, cum+1+run-i, Fresh)
			}
			addIs(t, s, cum+run+3, Fresh)
			addIs(t, s, cum+1, Fresh)
			if s.Cum() != cum+1+run || s.Len() != 1 {
				t.Fatalf("%d and %d behind: Cum %d, Len %d", cum, run, s.Cum(), s.Len())
			}
			gapsAre(t, s, api.Gap{Start: 2, End: 2})
			for i := range run + 2 {
				addIs(t, s, cum+i, There)
			}
		}
	}
}

// P8.1 to P8.5: rows by chance about the edges, each step held against the words; now and then a copy goes on instead.
func TestAgainstTheWords(t *testing.T) {
	r := dice()
	for _, cum := range cums() {
		for _, most := range []uint32{3, 6, 20, 100} {
			s, w := New(cum), &slow{cum: cum}
			for range 60 {
				addBoth(t, s, w, someTsn(r, w, most))
				alike(t, s, w)
				switch r.IntN(12) {
				case 0:
					dupsAlike(t, s, w)
				case 1:
					old := s
					s = s.Copy()
					old.Add(w.cum + 1)
					old.Dups()
				}
			}
			dupsAlike(t, s, w)
		}
	}
}

// someTsn is mostly one near the cumulative TSN, and now and then one at an edge.
func someTsn(r *rand.Rand, w *slow, most uint32) uint32 {
	switch r.IntN(10) {
	case 0:
		return w.cum + edges()[r.IntN(len(edges()))]
	case 1:
		return w.cum - r.Uint32N(most)
	case 2:
		return w.cum + 65536 - r.Uint32N(most)
	case 3:
		if len(w.came) > 0 {
			return w.came[r.IntN(len(w.came))] + r.Uint32N(3) - 1
		}
	}
	return w.cum + 1 + r.Uint32N(most)
}

// P8.2, P8.4: what came twice is told in order, also the same one again, the first 16; once taken, it begins anew.
func TestDups(t *testing.T) {
	for n := range 40 {
		s := New(100)
		addIs(t, s, 105, Fresh)
		var want []uint32
		for i := range uint32(n) {
			tsn := []uint32{105, 100, 99 - i, 105, 101 + 1<<31}[i%5]
			addIs(t, s, tsn, There)
			addIs(t, s, 100+65536, Far)
			want = append(want, tsn)
		}
		dupsAre(t, s, want[:min(n, 16)]...)
		dupsAre(t, s)
		addIs(t, s, 3, There)
		dupsAre(t, s, 3)
		dupsAre(t, s)
		gapsAre(t, s, api.Gap{Start: 5, End: 5})
	}
}

// P8.2: what came twice is there still when the cumulative TSN goes on.
func TestDupsStay(t *testing.T) {
	s := New(1<<32 - 2)
	addIs(t, s, 0, Fresh)
	addIs(t, s, 0, There)
	addIs(t, s, 1<<32-1, Fresh)
	addIs(t, s, 0, There)
	gapsAre(t, s)
	dupsAre(t, s, 0, 0)
}

// P8.4: the first 64 gaps, each whole, however many there are.
func TestFirstGaps(t *testing.T) {
	for _, cum := range cums() {
		for _, n := range []uint32{1, 2, 63, 64, 65, 66, 200} {
			s := New(cum)
			var want []api.Gap
			for i := n; i > 0; i-- { // the last one first
				way := i * 5
				for _, d := range []uint32{2, 0, 1} {
					addIs(t, s, cum+way+d, Fresh)
				}
			}
			for i := range min(n, 64) {
				want = append(want, api.Gap{Start: uint16(5*i + 5), End: uint16(5*i + 7)})
			}
			gapsAre(t, s, want...)
			if s.Len() != int(3*n) {
				t.Fatalf("%d gaps of three: Len %d", n, s.Len())
			}
		}
	}
}

// P8.4: a gap that is filled becomes one with those beside it, and what comes behind is told among the first 64 then.
func TestGapsMeet(t *testing.T) {
	s := New(7)
	for i := range uint32(70) {
		addIs(t, s, 7+2*i+2, Fresh)
	}
	if l := s.Gaps(); len(l) != 64 || l[63] != (api.Gap{Start: 128, End: 128}) {
		t.Fatal(l)
	}
	addIs(t, s, 7+3, Fresh)
	addIs(t, s, 7+129, Fresh)
	l := s.Gaps()
	if len(l) != 64 || l[0] != (api.Gap{Start: 2, End: 4}) || l[62] != (api.Gap{Start: 128, End: 130}) || l[63] != (api.Gap{Start: 132, End: 132}) {
		t.Fatal(l)
	}
}

// P8.2 to P8.5: all that may stand behind a cumulative TSN, in several orders: one gap, of which the next one makes an end.
func TestFull(t *testing.T) {
	r := dice()
	for _, cum := range []uint32{0, 1<<31 - 30000, 1<<32 - 30000, 1<<32 - 1} {
		ways := make([]uint32, 65534)
		for i := range ways {
			ways[i] = uint32(i) + 2
		}
		for range 3 {
			s := New(cum)
			for _, way := range ways {
				addIs(t, s, cum+way, Fresh)
			}
			gapsAre(t, s, api.Gap{Start: 2, End: 65535})
			if s.Cum() != cum || s.Len() != 65534 || s.Has(cum+1) || s.Has(cum+65536) {
				t.Fatalf("Cum %d, Len %d", s.Cum(), s.Len())
			}
			addIs(t, s, cum+1, Fresh)
			alike(t, s, &slow{cum: cum + 65535})
			dupsAre(t, s)
			r.Shuffle(len(ways), func(i, j int) { ways[i], ways[j] = ways[j], ways[i] })
		}
	}
}

// P8.4, P8.5: every second one of all that may stand behind.
func TestEverySecond(t *testing.T) {
	s := New(4000000000)
	for way := uint32(65535); way >= 3; way -= 2 {
		addIs(t, s, 4000000000+way, Fresh)
	}
	l := s.Gaps()
	if len(l) != 64 || s.Len() != 32767 {
		t.Fatalf("%d gaps of %d", len(l), s.Len())
	}
	for i, g := range l {
		if g.Start != uint16(2*i+3) || g.End != g.Start {
			t.Fatal(l)
		}
	}
}

// orders calls with each order of l.
func orders(l []uint32, with func([]uint32)) {
	var from func(int)
	from = func(i int) {
		if i == len(l) {
			with(l)
		}
		for j := i; j < len(l); j++ {
			l[i], l[j] = l[j], l[i]
			from(i + 1)
			l[i], l[j] = l[j], l[i]
		}
	}
	from(0)
}

// P8.5: each order of a few TSNs makes the same.
func TestEachOrder(t *testing.T) {
	for _, cum := range cums() {
		for _, ways := range [][]uint32{{1, 2}, {1, 2, 3, 4, 5}, {2, 3, 4, 5, 6}, {1, 2, 4, 5, 7, 65535}, {1, 3, 5, 65534, 65535}, {2, 4, 6, 8, 9, 10}, {1, 1, 2, 2, 3, 5}} {
			w := &slow{cum: cum}
			tsns := make([]uint32, len(ways))
			for i, way := range ways {
				tsns[i] = cum + way
				w.add(tsns[i])
			}
			want := w.gaps()
			orders(tsns, func(l []uint32) {
				s := New(cum)
				for _, tsn := range l {
					s.Add(tsn)
				}
				if s.Cum() != w.cum || s.Len() != len(w.came) || !slices.Equal(s.Gaps(), want) {
					t.Fatalf("behind %d, %v: Cum %d, Gaps %v", cum, l, s.Cum(), s.Gaps())
				}
				apart(t, s, want)
			})
		}
	}
}

// P8.5: many TSNs, none too far from the beginning on, in several orders, some of them more than once.
func TestManyOrders(t *testing.T) {
	r := dice()
	for _, cum := range cums() {
		var tsns []uint32
		most := []uint32{50, 300, 65535}[r.IntN(3)]
		for range 300 {
			tsns = append(tsns, cum+1+r.Uint32N(most))
		}
		w := &slow{cum: cum}
		for _, tsn := range tsns {
			w.add(tsn)
		}
		for range 6 {
			s := New(cum)
			r.Shuffle(len(tsns), func(i, j int) { tsns[i], tsns[j] = tsns[j], tsns[i] })
			for _, tsn := range tsns {
				s.Add(tsn)
				apart(t, s, nil)
			}
			alike(t, s, w)
		}
	}
}

// P8.5: a long way, more than may stand behind: each within reach at its time, in any order within that.
func TestLongWay(t *testing.T) {
	r := dice()
	for _, cum := range []uint32{0, 1<<31 - 100000, 1<<32 - 100000} {
		for _, reach := range []int{2, 100, 65535} {
			s := New(cum)
			way := make([]uint32, 200000)
			for i := range way {
				way[i] = uint32(i) + 1
			}
			for at := 0; at < len(way); at += reach {
				part := way[at:min(at+reach, len(way))]
				r.Shuffle(len(part), func(i, j int) { part[i], part[j] = part[j], part[i] })
			}
			for _, x := range way {
				addIs(t, s, cum+x, Fresh)
			}
			alike(t, s, &slow{cum: cum + 200000})
			dupsAre(t, s)
		}
	}
}

// P8.1: a copy stands so, and neither knows what is done with the other.
func TestCopy(t *testing.T) {
	stand := func() *Set {
		s := New(1<<32 - 2)
		for _, tsn := range []uint32{1, 2, 5, 2, 1<<32 - 9} {
			s.Add(tsn)
		}
		return s
	}
	words := func() *slow {
		return &slow{cum: 1<<32 - 2, came: []uint32{1, 2, 5}, dups: []uint32{2, 1<<32 - 9}}
	}
	change := func(s *Set) {
		for _, tsn := range []uint32{1<<32 - 1, 0, 5, 9, 1, 1} {
			s.Add(tsn)
		}
		if s.Cum() != 2 {
			t.Fatal(s.Cum())
		}
		dupsAre(t, s, 2, 1<<32-9, 5, 1, 1)
		gapsAre(t, s, api.Gap{Start: 3, End: 3}, api.Gap{Start: 7, End: 7})
	}
	for _, first := range []bool{true, false} {
		a := stand()
		b := a.Copy()
		if first {
			a, b = b, a
		}
		change(a)
		alike(t, b, words())
		dupsAlike(t, b, words())
		alike(t, b.Copy(), words())
	}
}

// P8.1, P8.4: doubles of a set and of its copy are noted apart, however many there are.
func TestCopyOfDups(t *testing.T) {
	for n := range uint32(18) {
		a := New(50)
		var want []uint32
		for i := range n {
			a.Add(i)
			want = append(want, i)
		}
		b := a.Copy()
		a.Add(49)
		b.Add(48)
		dupsAre(t, a, append(want[:n:n], 49)[:min(n+1, 16)]...)
		dupsAre(t, b, append(want[:n:n], 48)[:min(n+1, 16)]...)
	}
}

// What is answered is new memory: nobody who writes into it changes a set.
func TestOwnMemory(t *testing.T) {
	s := New(20)
	for _, tsn := range []uint32{22, 23, 25, 22, 20} {
		s.Add(tsn)
	}
	c := s.Copy()
	l := s.Gaps()
	l[0].End = 99
	clear(append(l[:0], s.Gaps()...))
	d := s.Dups()
	clear(d)
	s.Add(23)
	d = append(d[:0], 1, 2)
	gapsAre(t, s, api.Gap{Start: 2, End: 3}, api.Gap{Start: 5, End: 5})
	dupsAre(t, s, 23)
	dupsAre(t, c, 22, 20)
	if len(d) != 2 {
		t.Error(d)
	}
}

// What is asked changes nothing: asked twice, it is the same.
func TestAskingChangesNothing(t *testing.T) {
	s, w := New(1<<32-4), &slow{cum: 1<<32 - 4}
	for _, tsn := range []uint32{1<<32 - 2, 0, 3, 0, 1<<32 - 4} {
		addBoth(t, s, w, tsn)
	}
	for range 3 {
		alike(t, s, w)
	}
	dupsAre(t, s, 0, 1<<32-4)
	alike(t, s, w)
}
