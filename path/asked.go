package path

import (
	"lanyard/cwnd"
	"lanyard/rto"
)

// timing is what is asked of a timer.
type timing struct {
	value  func() uint64
	sample func(r uint64)
	back   func()
}

// sizing is what is asked of a window.
type sizing struct {
	size          func() int
	ack           func(n int, full bool)
	loss, timeout func()
}

// timing tells what is asked of the path's timer: of a nil path a nil one, which answers nothing.
func (p *Path) timing() timing {
	var timer *rto.Rto
	if p != nil {
		timer = p.timer
	}
	return timing{timer.Value, timer.Sample, timer.Back}
}

// sizing tells what is asked of the path's window: of a nil path a nil one, which answers nothing.
func (p *Path) sizing() sizing {
	var window *cwnd.Window
	if p != nil {
		window = p.window
	}
	return sizing{window.Size, window.Ack, window.Loss, window.Timeout}
}

// Wait (P13.4): the timer's value.
func (p *Path) Wait() uint64 { return p.timing().value() }

// Size (P13.4): the window's size.
func (p *Path) Size() int { return p.sizing().size() }

// Sample (P13.4): an answer took r ticks.
func (p *Path) Sample(r uint64) { p.timing().sample(r) }

// Ack (P13.4): n bytes were acknowledged, when the window was full or was not.
func (p *Path) Ack(n int, full bool) { p.sizing().ack(n, full) }

// Loss (P13.4): something was lost.
func (p *Path) Loss() { p.sizing().loss() }

// Timeout (P13.4): no answer came in time.
func (p *Path) Timeout() {
	p.timing().back()
	p.sizing().timeout()
}
