package deque

import "thresher/api"

// push is an act that puts a value at the bottom. Its steps are methods, each of which has the next one follow.
type push struct {
	act
	pushed int64
	wider  places // where it grows
	moved  int64  // the place that is copied next
}

func (p *push) loadBottom() api.Errno { return p.readBottom(p.loadTop) }

func (p *push) loadTop() api.Errno { return p.readTop(p.loadWhere) }

func (p *push) loadWhere() api.Errno { return p.readWhere(p.loadCount) }

func (p *push) loadCount() api.Errno {
	e := p.readCount(p.storeValue)
	if e == api.OK && less(p.bottom, p.top) >= p.count {
		p.next = p.grow
	}
	return e
}

// grow makes places for twice as many. A count that is none, since others wrote it, is held to what a memory may be asked for.
func (p *push) grow() api.Errno {
	count := 2 * min(max(p.count, 0), api.MaxCells)
	cells := make([]int64, 1+count)
	cells[0] = count
	where, e := p.row.mem.More(cells...)
	if e != api.OK {
		return e
	}
	p.wider, p.moved = places{int64(where), count}, p.top
	p.further()
	return api.OK
}

// further has the next value be copied, if there is one.
func (p *push) further() {
	p.next = p.storeWhere
	if p.moved < p.bottom {
		p.next = p.loadMoved
	}
}

func (p *push) loadMoved() api.Errno { return p.readPlace(p.moved, p.storeMoved) }

func (p *push) storeMoved() api.Errno {
	e := p.write(p.wider.place(p.moved), p.value, nil)
	if e == api.OK {
		p.moved++
		p.further()
	}
	return e
}

func (p *push) storeWhere() api.Errno {
	e := p.write(p.row.cell(atWhere), p.wider.where, p.storeValue)
	if e == api.OK {
		p.places = p.wider
	}
	return e
}

func (p *push) storeValue() api.Errno {
	return p.write(p.place(p.bottom), p.pushed, p.storeBottom)
}

func (p *push) storeBottom() api.Errno { return p.leave(p.bottom+1, api.ActDone, 0) }
