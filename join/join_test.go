package join

import (
	"fmt"
	"math"
	"math/rand"
	"slices"
	"sort"
	"strings"
	"testing"
	"unsafe"

	"thresher/api"
)

// The chapters' numbers, as they have them.
const (
	ready, runs, waits, wakes, away, over = uint8(1), uint8(2), uint8(3), uint8(4), uint8(5), uint8(6)

	mostRows = 4096
	mostKids = 16
	mostDeep = 12
	errNil   = api.Errno(1)
	errArg   = api.Errno(2)
	errState = api.Errno(3)
	errNone  = api.Errno(5)
	errFull  = api.Errno(6)
	errThere = api.Errno(7)
)

// plainRow is a row by the chapter's words. How many of its children are open is asked of all rows each time.
type plainRow struct {
	job    uint64
	task   api.Task
	state  uint8
	result api.Result
	forked bool
}

// plain is a table by the chapter's words: a list of rows, as they were made.
type plain struct {
	most int
	rows []*plainRow
}

func plainMay(path string) bool {
	for i := range len(path) {
		if path[i] < 1 || path[i] > mostKids {
			return false
		}
	}
	return len(path) <= mostDeep
}

func (p *plain) find(n api.Name) *plainRow {
	for _, r := range p.rows {
		if r.job == n.Job && r.task.Path == n.Path {
			return r
		}
	}
	return nil
}

// isKid tells whether k was forked from r.
func (r *plainRow) isKid(k *plainRow) bool {
	path := r.task.Path
	return k.forked && k.job == r.job && len(k.task.Path) == len(path)+1 && strings.HasPrefix(k.task.Path, path)
}

func (p *plain) open(r *plainRow) (n int) {
	for _, k := range p.rows {
		if r.isKid(k) && k.state != over {
			n++
		}
	}
	return n
}

// in is what all calls of one row begin with.
func (p *plain) in(n api.Name, states ...uint8) (*plainRow, api.Errno) {
	r := p.find(n)
	if r == nil {
		return nil, errNone
	}
	for _, s := range states {
		if r.state == s {
			return r, 0
		}
	}
	return nil, errState
}

func (p *plain) add(job uint64, x api.Task, forked bool) api.Errno {
	if p.find(api.Name{Job: job, Path: x.Path}) != nil {
		return errThere
	}
	if len(p.rows) == p.most {
		return errFull
	}
	x.Args = slices.Clone(x.Args)
	p.rows = append(p.rows, &plainRow{job: job, task: x, state: ready, forked: forked})
	return 0
}

func (p *plain) put(job uint64, x api.Task) api.Errno {
	if !plainMay(x.Path) {
		return errArg
	}
	return p.add(job, x, false)
}

func (p *plain) fork(parent api.Name, x api.Task) api.Errno {
	if _, e := p.in(parent, runs); e != 0 {
		return e
	}
	if n := len(x.Path); !plainMay(x.Path) || n == 0 || x.Path[:n-1] != parent.Path {
		return errArg
	}
	return p.add(parent.Job, x, true)
}

// move is a call that has a row go on to another state.
func (p *plain) move(n api.Name, to uint8, from ...uint8) (api.Task, api.Errno) {
	r, e := p.in(n, from...)
	if e != 0 {
		return api.Task{}, e
	}
	r.state = to
	return r.task, 0
}

func (p *plain) wait(n api.Name) (bool, api.Errno) {
	r, e := p.in(n, runs)
	if e != 0 || p.open(r) == 0 {
		return false, e
	}
	r.state = waits
	return true, 0
}

func (p *plain) over(n api.Name, x api.Result) (api.Name, bool, api.Errno) {
	r, e := p.in(n, runs, away)
	if e != 0 {
		return api.Name{}, false, e
	}
	r.state, r.result = over, x
	for _, q := range p.rows {
		if q.isKid(r) && q.state == waits && p.open(q) == 0 {
			q.state = wakes
			return api.Name{Job: q.job, Path: q.task.Path}, true, 0
		}
	}
	return api.Name{}, false, 0
}

func (p *plain) drop(roots []api.Name) (n int) {
	for _, root := range roots {
		var left []*plainRow
		for _, r := range p.rows {
			if r.job != root.Job || !plainMay(root.Path) || !strings.HasPrefix(r.task.Path, root.Path) {
				left = append(left, r)
			}
		}
		n += len(p.rows) - len(left)
		p.rows = left
	}
	return n
}

func (p *plain) row(r *plainRow) api.Row {
	return api.Row{Name: api.Name{Job: r.job, Path: r.task.Path}, Task: r.task, State: r.state, Open: p.open(r), Result: r.result}
}

// list is all rows, in order: by job, then by path, a row ahead of those under it.
func (p *plain) list() (l []api.Row) {
	for _, r := range p.rows {
		l = append(l, p.row(r))
	}
	sort.Slice(l, func(i, j int) bool {
		a, b := l[i].Name, l[j].Name
		if a.Job != b.Job {
			return a.Job < b.Job
		}
		for k := 0; k < len(a.Path) && k < len(b.Path); k++ {
			if a.Path[k] != b.Path[k] {
				return a.Path[k] < b.Path[k]
			}
		}
		return len(a.Path) < len(b.Path)
	})
	return l
}

func sameTask(a, b api.Task) bool {
	return a.Path == b.Path && a.Func == b.Func && a.Fuel == b.Fuel && slices.Equal(a.Args, b.Args)
}

func sameRow(a, b api.Row) bool {
	return a.Name == b.Name && sameTask(a.Task, b.Task) && a.State == b.State && a.Open == b.Open && a.Result == b.Result
}

// pair is a table, and what the chapter says of it.
type pair struct {
	t *testing.T
	x *Table
	p *plain
	// quiet: the rows are not held.
	quiet bool
}

func newPair(t *testing.T, most int) *pair {
	t.Helper()
	x, e := New(most)
	if x == nil || e != 0 {
		t.Fatalf("New(%d): %v, %d", most, x, e)
	}
	return &pair{t: t, x: x, p: &plain{most: most}}
}

// hold holds all that can be told against the chapter's words.
func (y *pair) hold() {
	y.t.Helper()
	if y.quiet {
		return
	}
	want := y.p.list()
	if l := y.x.Rows(); !slices.EqualFunc(l, want, sameRow) {
		y.t.Fatalf("Rows:\n%v, want\n%v", l, want)
	}
	if n := y.x.Len(); n != len(want) {
		y.t.Fatalf("Len: %d, want %d", n, len(want))
	}
	for _, w := range want {
		if r, is := y.x.Get(w.Name); !is || !sameRow(r, w) {
			y.t.Fatalf("Get(%v): %v, %v, want %v", w.Name, r, is, w)
		}
	}
}

func (y *pair) none(n api.Name) {
	y.t.Helper()
	if r, is := y.x.Get(n); is || !sameRow(r, api.Row{}) || r.Task.Args != nil {
		y.t.Fatalf("Get(%v): %v, %v", n, r, is)
	}
}

func (y *pair) errno(what string, e, want api.Errno) {
	y.t.Helper()
	if e != want {
		y.t.Fatalf("%s: %d, want %d", what, e, want)
	}
	y.hold()
}

func (y *pair) put(job uint64, x api.Task) api.Errno {
	y.t.Helper()
	e := y.x.Put(job, x)
	y.errno(fmt.Sprintf("Put(%d, %q)", job, x.Path), e, y.p.put(job, x))
	return e
}

func (y *pair) fork(parent api.Name, x api.Task) api.Errno {
	y.t.Helper()
	e := y.x.Fork(parent, x)
	y.errno(fmt.Sprintf("Fork(%v, %q)", parent, x.Path), e, y.p.fork(parent, x))
	return e
}

// task holds what came of a call that answers a task.
func (y *pair) task(what string, n api.Name, x api.Task, e api.Errno, want api.Task, we api.Errno) {
	y.t.Helper()
	if !sameTask(x, want) || we != 0 && x.Args != nil {
		y.t.Fatalf("%s(%v): %v, want %v", what, n, x, want)
	}
	y.errno(fmt.Sprintf("%s(%v)", what, n), e, we)
}

func (y *pair) begin(n api.Name) api.Errno {
	y.t.Helper()
	x, e := y.x.Begin(n)
	want, we := y.p.move(n, runs, ready, wakes)
	y.task("Begin", n, x, e, want, we)
	return e
}

func (y *pair) leave(n api.Name) api.Errno {
	y.t.Helper()
	x, e := y.x.Leave(n)
	want, we := y.p.move(n, away, ready)
	y.task("Leave", n, x, e, want, we)
	return e
}

func (y *pair) back(n api.Name) api.Errno {
	y.t.Helper()
	e := y.x.Back(n)
	_, we := y.p.move(n, ready, away)
	y.errno(fmt.Sprintf("Back(%v)", n), e, we)
	return e
}

func (y *pair) wait(n api.Name) (bool, api.Errno) {
	y.t.Helper()
	is, e := y.x.Wait(n)
	want, we := y.p.wait(n)
	if is != want {
		y.t.Fatalf("Wait(%v): %v, want %v", n, is, want)
	}
	y.errno(fmt.Sprintf("Wait(%v)", n), e, we)
	return is, e
}

func (y *pair) over(n api.Name, r api.Result) (api.Name, bool, api.Errno) {
	y.t.Helper()
	who, is, e := y.x.Over(n, r)
	want, wi, we := y.p.over(n, r)
	if who != want || is != wi {
		y.t.Fatalf("Over(%v): %v, %v, want %v, %v", n, who, is, want, wi)
	}
	y.errno(fmt.Sprintf("Over(%v)", n), e, we)
	return who, is, e
}

func (y *pair) drop(roots ...api.Name) int {
	y.t.Helper()
	was := slices.Clone(roots)
	n, want := y.x.Drop(roots...), y.p.drop(was)
	if n != want || !slices.Equal(roots, was) {
		y.t.Fatalf("Drop(%v): %d, want %d", was, n, want)
	}
	y.hold()
	return n
}

// want holds a row's state, and how many of its children are open.
func (y *pair) want(n api.Name, state uint8, open int) {
	y.t.Helper()
	if r, is := y.x.Get(n); !is || r.State != state || r.Open != open {
		y.t.Fatalf("Get(%v): %v, %v, want the state %d, %d open", n, r, is, state, open)
	}
}

// name is a name by the numbers of its generations.
func name(job uint64, path ...byte) api.Name { return api.Name{Job: job, Path: string(path)} }

// task is a task whose parts hang on its path.
func task(n api.Name) api.Task {
	return api.Task{Path: n.Path, Func: len(n.Path) + 1, Args: []int64{int64(n.Job), -int64(len(n.Path))}, Fuel: 100 + len(n.Path)}
}

// parentOf is the name of who forked it.
func parentOf(n api.Name) api.Name { return api.Name{Job: n.Job, Path: n.Path[:len(n.Path)-1]} }

// forks has a row fork the task of that name.
func (y *pair) forks(n api.Name) api.Errno {
	y.t.Helper()
	return y.fork(parentOf(n), task(n))
}

// running is a row that was put, and runs.
func (y *pair) running(n api.Name) {
	y.t.Helper()
	if e := y.put(n.Job, task(n)); e != 0 {
		y.t.Fatal("Put:", e)
	}
	if e := y.begin(n); e != 0 {
		y.t.Fatal("Begin:", e)
	}
}

// states has a row of each state be there, of the job of that number; each has what it takes to be in it.
func (y *pair) states() map[uint8]api.Name {
	y.t.Helper()
	l := map[uint8]api.Name{}
	for s := ready; s <= over; s++ {
		n := name(uint64(s), 3)
		l[s] = n
		kid := name(n.Job, 3, 1)
		y.put(n.Job, task(n))
		switch s {
		case runs, waits, wakes, over:
			y.begin(n)
		case away:
			y.leave(n)
		}
		switch s {
		case waits, wakes:
			y.forks(kid)
			y.wait(n)
		case over:
			y.over(n, api.Result{Value: 9})
		}
		if s == wakes {
			y.begin(kid)
			y.over(kid, api.Result{Value: 8})
		}
		if r, _ := y.x.Get(n); r.State != s {
			y.t.Fatal("a row of the state", s, r)
		}
	}
	return l
}

// TestNumbers (R7): the numbers of the chapter's words are those of api.
func TestNumbers(t *testing.T) {
	for i, s := range []uint8{api.TaskReady, api.TaskRuns, api.TaskWaits, api.TaskWakes, api.TaskAway, api.TaskOver} {
		if s != []uint8{ready, runs, waits, wakes, away, over}[i] {
			t.Error("states:", i, s)
		}
	}
	for i, e := range []api.Errno{api.ErrNil, api.ErrArg, api.ErrState, api.ErrNone, api.ErrFull, api.ErrThere} {
		if e != []api.Errno{errNil, errArg, errState, errNone, errFull, errThere}[i] {
			t.Error("errors:", i, e)
		}
	}
	if api.MaxRows != mostRows || api.MaxKids != mostKids || api.MaxDeep != mostDeep {
		t.Error(api.MaxRows, api.MaxKids, api.MaxDeep)
	}
}

// TestExamples (P17.1 to P17.4): the chapter's example.
func TestExamples(t *testing.T) {
	x, e := New(9)
	if e != 0 {
		t.Fatal("New:", e)
	}
	root, kid := name(1), name(1, 1)
	if e := x.Put(1, task(root)); e != 0 {
		t.Error("Put:", e)
	}
	if k, e := x.Begin(root); e != 0 || !sameTask(k, task(root)) {
		t.Error("Begin:", k, e)
	}
	if e := x.Fork(root, task(kid)); e != 0 {
		t.Error("Fork:", e)
	}
	if is, e := x.Wait(root); !is || e != 0 {
		t.Error("Wait:", is, e)
	}
	if k, e := x.Begin(kid); e != 0 || !sameTask(k, task(kid)) {
		t.Error("Begin of the child:", k, e)
	}
	if n, is, e := x.Over(kid, api.Result{Value: 5}); n != root || !is || e != 0 {
		t.Error("Over of the child:", n, is, e)
	}
	if k, e := x.Begin(root); e != 0 || !sameTask(k, task(root)) {
		t.Error("Begin again:", k, e)
	}
	if is, e := x.Wait(root); is || e != 0 {
		t.Error("Wait again:", is, e)
	}
	if n, is, e := x.Over(root, api.Result{Value: 6}); n != (api.Name{}) || is || e != 0 {
		t.Error("Over:", n, is, e)
	}
	if n := x.Len(); n != 2 {
		t.Error("Len:", n)
	}
}

// TestNew (P17.1): what may be the most; each table has rows of its own.
func TestNew(t *testing.T) {
	for _, most := range []int{0, -1, mostRows + 1, math.MinInt, math.MaxInt, 1 << 32, 1<<32 + 1} {
		if x, e := New(most); x != nil || e != errArg {
			t.Error(most, x, e)
		}
	}
	for _, most := range []int{1, 2, mostRows - 1, mostRows} {
		x, e := New(most)
		if x == nil || e != 0 || x.Len() != 0 || len(x.Rows()) != 0 {
			t.Error(most, x, e)
		}
	}
	a, b := newPair(t, 5), newPair(t, 5)
	a.running(name(1))
	b.hold()
	b.none(name(1))
	b.put(1, task(name(1)))
	a.hold()
}

// TestPut (P17.1): what is put is there as it was handed in, ready, with nothing open; the errors, and which goes ahead.
func TestPut(t *testing.T) {
	y := newPair(t, 4)
	deep := strings.Repeat("\x10", mostDeep)
	bad := []string{"\x00", "\x11", "\xff", "\x01\x00", "\x01\x11\x01", deep + "\x01", strings.Repeat("\x01", 400)}
	for _, path := range bad {
		if e := y.put(1, api.Task{Path: path}); e != errArg {
			t.Errorf("%q: %d", path, e)
		}
	}
	for i, n := range []api.Name{name(0), {Job: math.MaxUint64, Path: deep}, name(1)} {
		x := api.Task{Path: n.Path, Func: math.MinInt, Args: make([]int64, i), Fuel: math.MaxInt}
		if e := y.put(n.Job, x); e != 0 {
			t.Error(n, e)
		}
		want := api.Row{Name: n, Task: x, State: ready}
		if r, is := y.x.Get(n); !is || !sameRow(r, want) {
			t.Error("Get:", r, is)
		}
	}
	y.none(name(0, 1))
	y.none(name(2))
	y.begin(name(1))
	if e := y.put(1, api.Task{Fuel: 7}); e != errThere {
		t.Error("there:", e)
	}
	if e := y.put(1, task(name(1, 1))); e != 0 {
		t.Error("the last one:", e)
	}
	if e := y.put(1, task(name(1))); e != errThere {
		t.Error("there, of a full one:", e)
	}
	if e := y.put(2, task(name(2))); e != errFull {
		t.Error("full:", e)
	}
	for _, path := range bad {
		if e := y.put(2, api.Task{Path: path}); e != errArg {
			t.Errorf("%q, of a full one: %d", path, e)
		}
	}
	y.want(name(1), runs, 0) // who is put was not forked
}

// TestFork (P17.1): who may fork what; the errors, and which goes ahead.
func TestFork(t *testing.T) {
	y := newPair(t, 40)
	l := y.states()
	for s, n := range l {
		want := errState
		if s == runs {
			want = 0
		}
		r, _ := y.x.Get(n)
		kid := name(n.Job, 3, 9)
		if e := y.forks(kid); e != want {
			t.Error("state", s, e)
		}
		if s != runs {
			y.want(n, s, r.Open)
			y.none(kid)
			for _, bad := range []string{"", n.Path, "\x11", "\x03\x01"} { // ErrState is ahead of all else
				if e := y.fork(n, api.Task{Path: bad}); e != errState {
					t.Errorf("state %d, %q: %d", s, bad, e)
				}
			}
		}
	}
	n := l[runs]
	y.want(n, runs, 1)
	for _, bad := range []string{"", "\x03", "\x09", "\x02\x01", "\x03\x01\x01", "\x03\x00", "\x03\x11", "\x03\xff", "\x01\x03", "\x04", "\x02"} {
		if e := y.fork(n, api.Task{Path: bad}); e != errArg {
			t.Errorf("%q: %d", bad, e)
		}
		if e := y.fork(name(99, 3), api.Task{Path: bad}); e != errNone {
			t.Errorf("of none, %q: %d", bad, e)
		}
	}
	if e := y.fork(api.Name{Job: n.Job, Path: "\x11"}, api.Task{Path: "\x11\x01"}); e != errNone {
		t.Error("of a name that may not be:", e)
	}
	if e := y.forks(name(n.Job, 3, 9)); e != errThere {
		t.Error("twice:", e)
	}
	y.want(n, runs, 1)
	y.put(n.Job, task(name(n.Job, 3, 4)))
	y.want(n, runs, 1)
	if e := y.forks(name(n.Job, 3, 4)); e != errThere {
		t.Error("one that was put:", e)
	}
	y.want(n, runs, 1)
	kid, _ := y.x.Get(name(n.Job, 3, 9))
	if want := (api.Row{Name: name(n.Job, 3, 9), Task: task(name(n.Job, 3, 9)), State: ready}); !sameRow(kid, want) {
		t.Error("a child:", kid)
	}
}

// TestForkFull (P17.1): a full table refuses a child, behind all else; the root's path is nobody's child.
func TestForkFull(t *testing.T) {
	y := newPair(t, 3)
	y.running(name(1))
	if e := y.fork(name(1), api.Task{}); e != errArg {
		t.Error("the root's path:", e)
	}
	y.forks(name(1, 1))
	y.forks(name(1, 16))
	if e := y.forks(name(1, 2)); e != errFull {
		t.Error("full:", e)
	}
	if e := y.forks(name(1, 1)); e != errThere {
		t.Error("there, of a full one:", e)
	}
	if e := y.fork(name(1), api.Task{Path: "\x01\x01"}); e != errArg {
		t.Error("no child, of a full one:", e)
	}
	y.want(name(1), runs, 2)
	y.drop(name(1, 1))
	if e := y.forks(name(1, 2)); e != 0 {
		t.Error("room again:", e)
	}
	y.want(name(1), runs, 2)
}

// TestDeep (P17.1): a child of the last generation has none.
func TestDeep(t *testing.T) {
	y := newPair(t, 20)
	n := name(5)
	y.running(n)
	for range mostDeep {
		n.Path += "\x10"
		if e := y.forks(n); e != 0 {
			t.Fatal(len(n.Path), e)
		}
		y.begin(n)
	}
	n.Path += "\x01"
	if e := y.forks(n); e != errArg {
		t.Error("one more:", e)
	}
}

// TestMost (P17.1): all rows that there may be, and one more, as many times as one goes.
func TestMost(t *testing.T) {
	y := newPair(t, mostRows)
	y.quiet = true
	for i := range mostRows {
		n := name(uint64(i%3), byte(1+i/3%16), byte(1+i/48%16), byte(1+i/768%16))
		if e := y.put(n.Job, task(n)); e != 0 {
			t.Fatal(i, e)
		}
	}
	for i := range 3 {
		if e := y.put(9, task(name(9, byte(i+1)))); e != errFull {
			t.Error("full:", e)
		}
		n := name(0, byte(i+1), 1, 1)
		if k := y.drop(n, n); k != 1 {
			t.Error("Drop:", k)
		}
		if e := y.put(9, task(name(9, byte(i+1)))); e != 0 {
			t.Error("room:", e)
		}
	}
	if n := y.x.Len(); n != mostRows || len(y.x.Rows()) != n {
		t.Error("Len:", n)
	}
	if l, want := y.x.Rows(), y.p.list(); !slices.EqualFunc(l, want, sameRow) {
		t.Error("Rows are not in order")
	}
	if n := y.drop(name(0), name(1), name(2), name(9)); n != mostRows || y.x.Len() != 0 {
		t.Error("Drop of all:", n)
	}
}

// TestStates (P17.2, P17.3): what each call does to a row of each state; an error changes nothing.
func TestStates(t *testing.T) {
	calls := map[string]func(*pair, api.Name) api.Errno{
		"Begin": (*pair).begin, "Leave": (*pair).leave, "Back": (*pair).back,
		"Wait": func(y *pair, n api.Name) api.Errno { _, e := y.wait(n); return e },
		"Over": func(y *pair, n api.Name) api.Errno { _, _, e := y.over(n, api.Result{Value: 4, Err: 131}); return e },
	}
	to := map[string]map[uint8]uint8{ // what is not here is ErrState
		"Begin": {ready: runs, wakes: runs}, "Wait": {runs: runs}, "Leave": {ready: away}, "Back": {away: ready}, "Over": {runs: over, away: over},
	}
	for what, call := range calls {
		for s := ready; s <= over; s++ {
			y := newPair(t, 20)
			n := y.states()[s]
			was, _ := y.x.Get(n)
			state, may := to[what][s]
			want := errState
			if may {
				want, was.State = 0, state
			}
			if what == "Over" && may {
				was.Result = api.Result{Value: 4, Err: 131}
			}
			if e := call(y, n); e != want {
				t.Errorf("%s of the state %d: %d, want %d", what, s, e, want)
			}
			if r, _ := y.x.Get(n); !sameRow(r, was) {
				t.Errorf("%s of the state %d: %v, want %v", what, s, r, was)
			}
		}
		y := newPair(t, 20)
		y.states()
		for _, n := range []api.Name{name(1), name(1, 1), name(1, 3, 1), name(7, 3), name(0), {Job: 1, Path: "\x00"}, {Job: 1, Path: strings.Repeat("\x03", 50)}} {
			if e := call(y, n); e != errNone {
				t.Error(what, "of none:", n, e)
			}
		}
	}
}

// TestWait (P17.2): who has open children waits; who has none goes on.
func TestWait(t *testing.T) {
	y := newPair(t, 9)
	root := name(3)
	y.running(root)
	if is, e := y.wait(root); is || e != 0 {
		t.Error("without children:", is, e)
	}
	y.want(root, runs, 0)
	y.put(3, task(name(3, 7)))
	if is, e := y.wait(root); is || e != 0 {
		t.Error("with one that was put:", is, e)
	}
	y.forks(name(3, 1))
	if is, e := y.wait(root); !is || e != 0 {
		t.Error("with a child:", is, e)
	}
	y.want(root, waits, 1)
	if is, e := y.wait(root); is || e != errState {
		t.Error("that waits:", is, e)
	}
}

// TestOnce (P17.3, P17.5): who waits is woken once, by the last child, in whatever order they are over, here or away.
func TestOnce(t *testing.T) {
	orders := [][]byte{{1, 2, 3}, {1, 3, 2}, {2, 1, 3}, {2, 3, 1}, {3, 1, 2}, {3, 2, 1}}
	for _, order := range orders {
		for ahead := range 4 { // so many are over ahead of the wait
			y := newPair(t, 9)
			root := name(2, 5)
			y.running(root)
			for k := byte(1); k <= 3; k++ {
				y.forks(name(2, 5, k))
			}
			for i, k := range order {
				if i == ahead {
					if is, _ := y.wait(root); !is {
						t.Error("Wait:", order, ahead)
					}
				}
				kid := name(2, 5, k)
				if k == 2 {
					y.leave(kid)
				} else {
					y.begin(kid)
				}
				who, is, e := y.over(kid, api.Result{Value: int64(k)})
				want := i == 2 && ahead < 3
				if is != want || e != 0 || want && who != root || !want && who != (api.Name{}) {
					t.Error("Over:", order, ahead, who, is, e)
				}
			}
			if ahead == 3 {
				if is, e := y.wait(root); is || e != 0 {
					t.Error("Wait, behind all:", is, e)
				}
				continue
			}
			y.want(root, wakes, 0)
			y.begin(root)
			if is, e := y.wait(root); is || e != 0 {
				t.Error("Wait again:", is, e)
			}
		}
	}
}

// TestPutKid (P17.3, P17.4): a row that was put below another one is no child of it: it wakes nobody, and counts for nobody.
func TestPutKid(t *testing.T) {
	y := newPair(t, 9)
	root := name(1)
	y.running(root)
	y.forks(name(1, 1))
	y.running(name(1, 2))
	y.wait(root)
	if _, is, e := y.over(name(1, 2), api.Result{}); is || e != 0 {
		t.Error("Over:", is, e)
	}
	y.want(root, waits, 1)
	y.drop(name(1, 2))
	y.want(root, waits, 1)
	y.put(1, task(name(1, 2)))
	y.drop(name(1, 2))
	y.want(root, waits, 1)
	y.running(name(2)) // of another job
	y.put(2, task(name(2, 1)))
	y.begin(name(1, 1))
	if who, is, e := y.over(name(1, 1), api.Result{}); who != root || !is || e != 0 {
		t.Error("Over of the child:", who, is, e)
	}
	y.drop(name(1, 1))
	y.put(1, task(name(1, 1))) // in the place of a child that went
	y.want(root, wakes, 0)
	y.begin(name(1, 1))
	if _, is, e := y.over(name(1, 1), api.Result{}); is || e != 0 {
		t.Error("Over of its place:", is, e)
	}
}

// TestParentOver (P17.3): a parent that was over ahead of its child is not woken; one that runs is not, either.
func TestParentOver(t *testing.T) {
	y := newPair(t, 9)
	root := name(1)
	y.running(root)
	y.forks(name(1, 1))
	y.forks(name(1, 2))
	y.begin(name(1, 1))
	y.begin(name(1, 2))
	y.over(name(1, 1), api.Result{Value: 1})
	y.want(root, runs, 1)
	if _, is, e := y.over(root, api.Result{Value: 2}); is || e != 0 {
		t.Error("Over:", is, e)
	}
	y.want(root, over, 1)
	if _, is, e := y.over(name(1, 2), api.Result{Err: 130}); is || e != 0 {
		t.Error("Over of the child:", is, e)
	}
	y.want(root, over, 0)
	if _, _, e := y.over(root, api.Result{}); e != errState {
		t.Error("Over again:", e)
	}
	if r, _ := y.x.Get(root); r.Result != (api.Result{Value: 2}) {
		t.Error("another result:", r)
	}
}

// tree has some rows of two jobs be there: their names.
func (y *pair) tree() []api.Name {
	y.t.Helper()
	y.running(name(1))
	y.running(name(2, 1))
	l := []api.Name{name(1), name(2, 1)}
	for _, n := range []api.Name{name(1, 1), name(1, 2), name(1, 16), name(1, 1, 1), name(1, 1, 2), name(1, 1, 1, 1), name(2, 1, 1), name(2, 1, 1, 3)} {
		if e := y.forks(n); e != 0 {
			y.t.Fatal("Fork:", n, e)
		}
		y.begin(n)
		l = append(l, n)
	}
	return l
}

// TestDrop (P17.4): what goes by each root, by roots under each other, the same ones, those of other jobs, and those that may not be.
func TestDrop(t *testing.T) {
	for i, c := range []struct {
		roots []api.Name
		went  int
	}{
		{nil, 0}, {[]api.Name{}, 0},
		{[]api.Name{name(1)}, 7}, {[]api.Name{name(1, 1)}, 4}, {[]api.Name{name(1, 1, 1)}, 2}, {[]api.Name{name(1, 16)}, 1},
		{[]api.Name{name(2)}, 3}, {[]api.Name{name(2, 1)}, 3}, {[]api.Name{name(2, 1, 1)}, 2},
		{[]api.Name{name(1), name(2)}, 10}, {[]api.Name{name(1), name(1), name(1, 1)}, 7}, {[]api.Name{name(1, 1, 1), name(1, 1)}, 4},
		{[]api.Name{name(1, 1), name(1, 1, 1), name(1, 2), name(1, 1)}, 5},
		{[]api.Name{name(3), name(0), name(1, 3), name(1, 1, 1, 1, 1), name(2, 2)}, 0},
		{[]api.Name{{Job: 1, Path: "\x00"}, {Job: 1, Path: "\x11"}, {Job: 1, Path: strings.Repeat("\x01", 13)}, {Job: 1, Path: "\x01\x00"}}, 0},
		{[]api.Name{{Job: 1, Path: "\x00"}, name(1, 2)}, 1},
	} {
		y := newPair(t, 20)
		y.tree()
		if n := y.drop(c.roots...); n != c.went {
			t.Error(i, c.roots, n, c.went)
		}
		if n := y.drop(c.roots...); n != 0 {
			t.Error("again:", i, c.roots, n)
		}
	}
}

// TestDropOpen (P17.4): a parent that stays counts those that went no more, but those that were over; nobody is woken by that.
func TestDropOpen(t *testing.T) {
	y := newPair(t, 9)
	root := name(4, 2)
	y.running(root)
	for k := byte(1); k <= 4; k++ {
		y.forks(name(4, 2, k))
	}
	y.wait(root)
	y.begin(name(4, 2, 1))
	y.forks(name(4, 2, 1, 1))
	y.over(name(4, 2, 1), api.Result{})
	y.want(root, waits, 3)
	if n := y.drop(name(4, 2, 1)); n != 2 { // it was over, and one under it was not
		t.Error("Drop:", n)
	}
	y.want(root, waits, 3)
	y.leave(name(4, 2, 2))
	y.drop(name(4, 2, 2))
	y.want(root, waits, 2)
	y.begin(name(4, 2, 3))
	if _, is, _ := y.over(name(4, 2, 3), api.Result{}); is {
		t.Error("woken ahead of the last one")
	}
	y.drop(name(4, 2, 4))
	y.want(root, waits, 0) // it does not wake by that
	if e := y.begin(root); e != errState {
		t.Error("Begin of one that waits:", e)
	}
	y = newPair(t, 9)
	y.running(root)
	y.forks(name(4, 2, 1))
	y.forks(name(4, 2, 2))
	y.wait(root)
	y.begin(name(4, 2, 2))
	y.drop(name(4, 2, 1))
	if who, is, e := y.over(name(4, 2, 2), api.Result{}); who != root || !is || e != 0 {
		t.Error("the last one of those that stayed:", who, is, e)
	}
}

// TestDropAgain (P17.4): what went can be put and forked anew; all of it begins anew.
func TestDropAgain(t *testing.T) {
	y := newPair(t, 9)
	root, kid := name(1), name(1, 1)
	for range 3 {
		y.running(root)
		y.forks(kid)
		y.wait(root)
		y.leave(kid)
		y.over(kid, api.Result{Value: 3})
		y.drop(kid)
		y.want(root, wakes, 0)
		y.begin(root)
		y.forks(kid)
		y.want(root, runs, 1)
		y.want(kid, ready, 0)
		if n := y.drop(root); n != 2 {
			t.Error("Drop:", n)
		}
		y.none(root)
		y.none(kid)
	}
}

// TestOrder (P17.4): rows in order, by job, then by path: those ahead of those under them.
func TestOrder(t *testing.T) {
	want := []api.Name{
		name(0, 16), name(1), name(1, 1), name(1, 1, 1), name(1, 1, 1, 16), name(1, 1, 2), name(1, 2), name(1, 9, 9), name(1, 10), name(1, 16),
		name(2), name(2, 1), name(255, 3), name(256, 2), name(1<<32, 1), name(1<<63, 1), name(math.MaxUint64),
	}
	r := rand.New(rand.NewSource(17))
	for range 30 {
		y := newPair(t, len(want))
		y.quiet = true
		for _, i := range r.Perm(len(want)) {
			y.put(want[i].Job, task(want[i]))
		}
		for i, x := range y.x.Rows() {
			if x.Name != want[i] || x.Task.Path != want[i].Path {
				t.Fatal(i, x.Name, want[i])
			}
		}
	}
}

// TestOwn (R5): what is handed in is not kept, and what is answered is of its own.
func TestOwn(t *testing.T) {
	x, _ := New(5)
	args := make([]int64, 2, 4)
	copy(args, []int64{7, 8})
	path := []byte{1}
	held := unsafe.String(&path[0], len(path)) // a text whose bytes are somebody else's
	x.Put(1, api.Task{Path: held, Args: args})
	args[0], path[0] = 99, 2
	_ = append(args, 5)
	n := name(1, 1)
	want := func(what string, x api.Task) {
		t.Helper()
		if x.Path != "\x01" || !slices.Equal(x.Args, []int64{7, 8}) {
			t.Error(what, x)
		}
	}
	spoil := func(x api.Task) {
		l := append(x.Args, 3)
		x.Args[1], l[0] = 55, 66
	}
	k, e := x.Leave(n)
	if e != 0 {
		t.Fatal("Leave:", e)
	}
	want("Leave", k)
	spoil(k)
	x.Back(n)
	k, _ = x.Begin(n)
	want("Begin", k)
	spoil(k)
	for range 2 {
		r, is := x.Get(n)
		if !is {
			t.Fatal("Get")
		}
		want("Get", r.Task)
		spoil(r.Task)
		l := x.Rows()
		want("Rows", l[0].Task)
		spoil(l[0].Task)
		l[0].Name = api.Name{}
	}
	x.Fork(n, api.Task{Path: "\x01\x01", Args: args})
	args[0] = 98
	if r, _ := x.Get(name(1, 1, 1)); !slices.Equal(r.Task.Args, []int64{99, 8}) {
		t.Error("Fork:", r)
	}
	roots := []api.Name{n, n}
	x.Drop(roots...)
	if !slices.Equal(roots, []api.Name{n, n}) || x.Len() != 0 {
		t.Error("Drop:", roots, x.Len())
	}
}

// TestNil (R3): of nil, and of what New did not make: nothing comes of any call, whatever it is handed.
func TestNil(t *testing.T) {
	for i, x := range []*Table{nil, {}, new(Table)} {
		for _, n := range []api.Name{name(1), name(1, 1), {Job: 1, Path: "\x00"}} {
			for range 2 {
				a, ea := x.Begin(n)
				b, eb := x.Leave(n)
				if !sameTask(a, api.Task{}) || !sameTask(b, api.Task{}) || ea != errNil || eb != errNil {
					t.Error(i, "Begin, Leave:", a, b, ea, eb)
				}
				is, ew := x.Wait(n)
				who, was, eo := x.Over(n, api.Result{Value: 1})
				if is || was || who != (api.Name{}) || ew != errNil || eo != errNil {
					t.Error(i, "Wait, Over:", is, who, was, ew, eo)
				}
				ep, ef, ek := x.Put(1, task(n)), x.Fork(n, api.Task{Path: n.Path + "\x01"}), x.Back(n)
				if ep != errNil || ef != errNil || ek != errNil {
					t.Error(i, "Put, Fork, Back:", ep, ef, ek)
				}
				r, is := x.Get(n)
				if is || !sameRow(r, api.Row{}) || len(x.Rows()) != 0 || x.Len() != 0 || x.Drop(n, n) != 0 || x.Drop() != 0 {
					t.Error(i, "what there is:", r, is, x.Rows(), x.Len())
				}
			}
		}
	}
}

// steps does what the bytes say, one call behind the other, and holds each against the chapter's words.
func steps(y *pair, script []byte) {
	y.t.Helper()
	next := func() int {
		if len(script) == 0 {
			return 0
		}
		b := script[0]
		script = script[1:]
		return int(b)
	}
	some := func() api.Name {
		if len(y.p.rows) > 0 && next()%8 > 0 {
			r := y.p.rows[next()%len(y.p.rows)]
			return api.Name{Job: r.job, Path: r.task.Path}
		}
		n := name(uint64(next() % 3))
		for range next() % 4 {
			n.Path += string([]byte{byte(next() % 4)})
		}
		return n
	}
	for len(script) > 0 {
		n := some()
		switch next() % 14 {
		case 0:
			y.put(n.Job, api.Task{Path: n.Path, Func: next(), Args: make([]int64, next()%3), Fuel: next()})
		case 1, 2, 3:
			y.fork(n, api.Task{Path: n.Path + string([]byte{byte(next() % 5)}), Func: next(), Args: []int64{int64(next())}, Fuel: next()})
		case 4, 5, 6:
			y.begin(n)
		case 7, 8:
			y.wait(n)
		case 9:
			y.leave(n)
		case 10:
			y.back(n)
		case 11, 12:
			y.over(n, api.Result{Value: int64(next()), Err: api.Errno(next() % 2 * 130)})
		default:
			if next()%3 == 0 {
				y.drop(n, some())
			} else if len(n.Path) > 0 {
				y.drop(n)
			}
		}
	}
	y.none(name(77, 1))
}

// TestDrawn (P17.1 to P17.5, R6): calls that are drawn, one behind the other, twice the same.
func TestDrawn(t *testing.T) {
	r := rand.New(rand.NewSource(1717))
	for range 1500 {
		script := make([]byte, r.Intn(700))
		r.Read(script)
		most := 1 + r.Intn(30)
		a, b := newPair(t, most), newPair(t, most)
		steps(a, script)
		steps(b, script)
		if !slices.EqualFunc(a.x.Rows(), b.x.Rows(), sameRow) {
			t.Fatal("the same calls made two sorts of tables")
		}
	}
}

// TestEnd (P17.5): tasks that fork, wait and are over, in an order that is drawn, with some away for a while: each one that waits is woken just once, and all come to their end.
func TestEnd(t *testing.T) {
	r := rand.New(rand.NewSource(175))
	for range 60 {
		y := newPair(t, mostRows)
		y.quiet = true
		root := name(6)
		y.put(6, task(root))
		ready, gone := []api.Name{root}, []api.Name(nil)
		waited, woken, forked := 0, 0, 1
		end := func(n api.Name) {
			if who, is, e := y.over(n, api.Result{}); is && e == 0 {
				ready = append(ready, who)
				woken++
			}
		}
		for len(ready)+len(gone) > 0 {
			if len(ready) == 0 || len(gone) > 0 && r.Intn(4) == 0 {
				i := r.Intn(len(gone))
				n := gone[i]
				gone = slices.Delete(gone, i, i+1)
				if r.Intn(2) == 0 {
					end(n)
				} else if y.back(n) == 0 {
					ready = append(ready, n)
				}
				continue
			}
			i := r.Intn(len(ready))
			n := ready[i]
			ready = slices.Delete(ready, i, i+1)
			if r.Intn(5) == 0 && y.leave(n) == 0 {
				gone = append(gone, n)
				continue
			}
			y.begin(n)
			for k := byte(1); k <= mostKids && len(n.Path) < 4 && r.Intn(3) > 0; k++ {
				kid := name(6, append([]byte(n.Path), k)...)
				if y.forks(kid) == 0 {
					ready = append(ready, kid)
					forked++
				}
			}
			if is, _ := y.wait(n); is {
				waited++
				continue
			}
			end(n)
		}
		for _, x := range y.x.Rows() {
			if x.State != over || x.Open != 0 {
				t.Fatal("not over:", x)
			}
		}
		if waited != woken || y.x.Len() != forked {
			t.Fatal("waited, woken, rows:", waited, woken, y.x.Len(), forked)
		}
	}
}

// FuzzTable (P17.1 to P17.5): any calls, one behind the other.
func FuzzTable(f *testing.F) {
	f.Add([]byte{1, 0, 0, 7, 1, 2, 1, 0, 4, 1, 0, 1, 1, 1, 2, 3, 1, 0, 7, 1, 1, 4, 1, 1, 11, 5, 0})
	f.Add([]byte{0, 0, 0, 1, 1, 3, 1, 0, 9, 1, 0, 10, 1, 0, 4, 1, 0, 13, 1})
	f.Fuzz(func(t *testing.T, script []byte) {
		if len(script) > 1000 {
			return
		}
		steps(newPair(t, 12), script)
	})
}
