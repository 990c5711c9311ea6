package path

import (
	"math"
	"math/rand/v2"
	"testing"

	"lanyard/api"
)

// P13.2: misses up to PathTries, one more, and many more: each number that PathTries may be.
func TestMiss(t *testing.T) {
	for tries := 1; tries <= 255; tries++ {
		x := made(t, trying(uint8(tries)), 7, 8)
		for n := 1; n <= tries+20; n++ {
			if turned := x.Miss(); turned != (n == tries+1) {
				t.Fatalf("PathTries %d: Miss %d tells %t", tries, n, turned)
			}
			stands(t, x, seen{7, 8, n <= tries, n, 300, 512})
		}
	}
}

// P13.2: so many misses that they are more than a small number holds.
func TestMissMany(t *testing.T) {
	for _, tries := range []uint8{1, 3, 254, 255} {
		b := newBoth(t, trying(tries), 7, 8)
		b.misses(70000)
		stands(t, b.x, seen{7, 8, false, 70000, 300, 512})
		b.hear()
		stands(t, b.x, seen{7, 8, true, 0, 300, 512})
		b.misses(int(tries))
		stands(t, b.x, seen{7, 8, true, int(tries), 300, 512})
		b.miss()
		stands(t, b.x, seen{7, 8, false, int(tries) + 1, 300, 512})
	}
}

// P13.2: Hear with no miss ahead of it, below PathTries, at it, and behind it, and one more Hear; then it counts anew.
func TestHear(t *testing.T) {
	for _, tries := range []int{1, 2, 3, 4, 127, 128, 254, 255} {
		for misses := 0; misses <= tries+3; misses++ {
			x := made(t, trying(uint8(tries)), 7, 8)
			for range 2 {
				for range misses {
					x.Miss()
				}
				stands(t, x, seen{7, 8, misses <= tries, misses, 300, 512})
				if turned := x.Hear(); turned != (misses > tries) {
					t.Fatalf("PathTries %d, %d misses: Hear tells %t", tries, misses, turned)
				}
				stands(t, x, seen{7, 8, true, 0, 300, 512})
				if x.Hear() {
					t.Fatalf("PathTries %d, %d misses: a second Hear tells true", tries, misses)
				}
				stands(t, x, seen{7, 8, true, 0, 300, 512})
			}
		}
	}
}

// P13.2: the first call of all.
func TestHearFirst(t *testing.T) {
	x := made(t, usual(), 7, 8)
	if x.Hear() || !x.Active() || x.Misses() != 0 {
		t.Fatal("Hear of a path as at first")
	}
	if x.Miss() || x.Misses() != 1 {
		t.Fatal("Miss behind it")
	}
}

// P13.2, P13.5: all rows of misses and hearings.
func TestHeardRows(t *testing.T) {
	for tries := uint8(1); tries <= 5; tries++ {
		for row := range 1 << 12 {
			b := newBoth(t, trying(tries), 7, 8)
			for i := range 12 {
				if row>>i&1 == 0 {
					b.miss()
				} else {
					b.hear()
				}
			}
		}
	}
}

// P13.2, P13.5: rows by chance, with PathTries of all sizes.
func TestHeardChance(t *testing.T) {
	r := rand.New(rand.NewPCG(13, 2))
	for range 1000 {
		b := newBoth(t, trying(uint8(1+r.IntN(255))), 7, 8)
		for range 5 {
			b.misses(r.IntN(300))
			b.hear()
		}
		b.misses(int(b.w.c.PathTries) + r.IntN(3) - 1)
	}
}

// P13.2: a miss, and hearing, leave addresses, timer, window and heartbeat as they are.
func TestHeardLeaves(t *testing.T) {
	for _, c := range []api.Config{usual(), odd(), trying(255)} {
		for _, ahead := range aheads() {
			b := newBoth(t, c, 7, 8)
			ahead(b)
			for range 3 {
				was := look(b.x)
				b.miss()
				was.misses++
				was.active = b.x.Active()
				stands(t, b.x, was)
			}
			was := look(b.x)
			b.hear()
			was.misses, was.active = 0, true
			stands(t, b.x, was)
		}
	}
}

// P13.3: Beat with none out, with the same number out, with another; Answer of it, and of another, then and later.
func TestBeat(t *testing.T) {
	for _, one := range numbers() {
		for _, two := range numbers() {
			x := made(t, usual(), 7, 8)
			tells := func(what string, n uint32, got, want bool) {
				t.Helper()
				if got != want {
					t.Fatalf("%d, %d: %s(%d) tells %t", one, two, what, n, got)
				}
			}
			tells("Answer", one, x.Answer(one), false)
			tells("Answer", two, x.Answer(two), false)
			tells("Beat", one, x.Beat(one), false)
			if two != one {
				tells("Answer", two, x.Answer(two), false)
			}
			tells("Beat", two, x.Beat(two), true)
			if two != one {
				tells("Answer", one, x.Answer(one), false)
			}
			tells("Answer", two, x.Answer(two), true)
			tells("Answer", two, x.Answer(two), false)
			tells("Answer", one, x.Answer(one), false)
			tells("Beat", two, x.Beat(two), false)
			tells("Beat", one, x.Beat(one), true)
			tells("Answer", one, x.Answer(one), true)
			tells("Beat", two, x.Beat(two), false)
			tells("Beat", two, x.Beat(two), true)
			tells("Beat", two, x.Beat(two), true)
			tells("Answer", two, x.Answer(two), true)
			tells("Answer", two, x.Answer(two), false)
		}
	}
}

// P13.3: number 0 with none out: at first, and behind another one that was answered.
func TestAnswerNone(t *testing.T) {
	for _, n := range numbers() {
		x := made(t, usual(), 7, 8)
		for _, ahead := range numbers() {
			if x.Answer(n) || x.Beat(ahead) || !x.Answer(ahead) || x.Answer(n) {
				t.Fatalf("Answer(%d) with none out, about %d", n, ahead)
			}
		}
	}
}

// P13.3: an Answer of another number leaves the one that is out.
func TestAnswerOther(t *testing.T) {
	for _, n := range numbers() {
		x := made(t, usual(), 7, 8)
		x.Beat(n)
		for _, other := range append(numbers(), n+1, n-1, n^1<<31, n^1<<16, ^n) {
			if other != n && x.Answer(other) {
				t.Fatalf("Answer(%d), when %d is out", other, n)
			}
			out(t, x, n)
		}
		if !x.Answer(n) || x.Answer(n) {
			t.Fatalf("Answer(%d)", n)
		}
		out(t, x)
	}
}

// P13.3: all rows of six acts with three numbers.
func TestBeatRows(t *testing.T) {
	var rows func(*both, int)
	rows = func(b *both, left int) {
		if left == 0 {
			return
		}
		for _, n := range []uint32{0, 1, math.MaxUint32} {
			next := b.copy()
			next.beat(n)
			rows(next, left-1)
			next = b.copy()
			next.answer(n)
			rows(next, left-1)
		}
	}
	rows(newBoth(t, usual(), 7, 8), 6)
}

// P13.3: a heartbeat, and its answer, leave all else as it is: an answer is no hearing, and none that is out is no miss.
func TestBeatLeaves(t *testing.T) {
	for _, c := range []api.Config{usual(), odd(), trying(255)} {
		for _, ahead := range aheads() {
			b := newBoth(t, c, 7, 8)
			ahead(b)
			was := look(b.x)
			for _, n := range numbers() {
				b.answer(n)
				b.beat(n)
				b.beat(n)
				b.answer(n + 1)
				b.answer(n)
				b.beat(n)
				stands(t, b.x, was)
			}
		}
	}
}
