package deque

import "thresher/api"

// step is one call of the memory; behind one that is refused, the act stays where it is.
type step func() api.Errno

// act is what pushes, pops and steals have in common: what was read, and how they go on.
type act struct {
	places
	row                *row
	top, bottom, value int64
	next               step
	came               uint8
	got                int64
}

// over tells whether the act's last step was done.
func (a *act) over() bool { return a.came != api.ActGoes }

// end has the act be over.
func (a *act) end(came uint8, got int64) { a.next, a.came, a.got = nil, came, got }

// read is a step: what a cell holds is told to the act.
func (a *act) read(at int, to *int64, next step) api.Errno {
	v, e := a.row.mem.Load(at)
	if e != api.OK {
		return e
	}
	*to, a.next = v, next
	return api.OK
}

// What acts read, each by a step.

func (a *act) readTop(next step) api.Errno { return a.read(a.row.cell(atTop), &a.top, next) }

func (a *act) readBottom(next step) api.Errno { return a.read(a.row.cell(atBottom), &a.bottom, next) }

func (a *act) readWhere(next step) api.Errno { return a.read(a.row.cell(atWhere), &a.where, next) }

func (a *act) readCount(next step) api.Errno { return a.read(int(a.where), &a.count, next) }

func (a *act) readPlace(i int64, next step) api.Errno { return a.read(a.place(i), &a.value, next) }

// write is a step: a cell holds v.
func (a *act) write(at int, v int64, next step) api.Errno {
	e := a.row.mem.Store(at, v)
	if e == api.OK {
		a.next = next
	}
	return e
}

// leave is a step, an act's last one: bottom is written.
func (a *act) leave(bottom int64, came uint8, got int64) api.Errno {
	e := a.write(a.row.cell(atBottom), bottom, nil)
	if e == api.OK {
		a.end(came, got)
	}
	return e
}

// take is a step: top, which is always there, goes on by one, unless another one was ahead.
func (a *act) take() bool {
	is, _ := a.row.mem.Swap(a.row.cell(atTop), a.top, a.top+1)
	return is
}

// Act is a push, a pop or a steal, done step by step.
type Act struct{ act *act }

// is tells whether there is an act, and a deque's call made it.
func (a *Act) is() bool { return a != nil && a.act != nil }

// Step does the next step; it tells what the act came to by it, and the value that it got.
func (a *Act) Step() (uint8, int64, api.Errno) {
	switch {
	case !a.is():
		return 0, 0, api.ErrNil
	case a.act.over():
		return 0, 0, api.ErrState
	}
	if e := a.act.next(); e != api.OK {
		return 0, 0, e
	}
	return a.act.came, a.act.got, api.OK
}

// Told is what the act came to, and the value that it got.
func (a *Act) Told() (uint8, int64) {
	if !a.is() {
		return api.ActGoes, 0
	}
	return a.act.came, a.act.got
}
