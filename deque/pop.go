package deque

import "thresher/api"

// pop is an act that gets the value at the bottom. Its steps are methods, each of which has the next one follow.
type pop struct {
	act
	won bool // the last value, by a swap
}

// last is the place of the value at the bottom.
func (p *pop) last() int64 { return p.bottom - 1 }

func (p *pop) loadBottom() api.Errno { return p.readBottom(p.loadWhere) }

func (p *pop) loadWhere() api.Errno { return p.readWhere(p.lower) }

// lower tells thieves that the last place is wanted, ahead of asking how far they are.
func (p *pop) lower() api.Errno { return p.write(p.row.cell(atBottom), p.last(), p.loadTop) }

func (p *pop) loadTop() api.Errno {
	e := p.readTop(p.loadCount)
	if e == api.OK && p.top > p.last() {
		p.next = p.restore
	}
	return e
}

func (p *pop) loadCount() api.Errno { return p.readCount(p.loadValue) }

// loadValue ends the act, if no thief can come as far as this value.
func (p *pop) loadValue() api.Errno {
	e := p.readPlace(p.last(), p.swap)
	if e == api.OK && p.top < p.last() {
		p.end(api.ActGot, p.value)
	}
	return e
}

func (p *pop) swap() api.Errno {
	p.won, p.next = p.take(), p.restore
	return api.OK
}

func (p *pop) restore() api.Errno {
	if p.won {
		return p.leave(p.bottom, api.ActGot, p.value)
	}
	return p.leave(p.bottom, api.ActEmpty, 0)
}
