package sched

import (
	"slices"

	"bollard/adjust"
	"bollard/api"
	"bollard/check"
	"bollard/snap"
	"bollard/vfs"
)

const mostRoom = 1 << 16 // blocks that may be kept for a snapshot

// attempt does a step. One that can't be done panics with a fault, which is
// caught here.
func (m *Machine) attempt(s api.Step) (a api.Answer, why api.Errno) {
	defer func() {
		switch caught := recover().(type) {
		case nil:
		case api.Fault:
			why = caught.Why
		default: // it is no step's
			panic(caught)
		}
	}()
	return m.step(s), api.OK
}

// refuse ends a step.
func refuse(why api.Errno) {
	panic(api.Fault{Why: why})
}

// refuseIf ends a step, if something is so.
func refuseIf(so bool, why api.Errno) {
	if so {
		refuse(why)
	}
}

// must ends a step that another layer refused.
func must(why api.Errno) {
	refuseIf(why != api.OK, why)
}

func (m *Machine) step(s api.Step) api.Answer {
	refuseIf(s.Kind < api.StepCall || s.Kind >= api.NumSteps, api.ErrArg)
	refuseIf(m.fs == nil && s.Kind != api.StepCrash, api.ErrState)
	switch s.Kind {
	case api.StepCall:
		return m.call(s.Call)
	case api.StepWrite:
		m.write(s.N)
	case api.StepComplete:
		m.complete(s.N, true)
	case api.StepFail:
		m.complete(s.N, false)
	case api.StepSnap:
		m.takeSnap(s.N)
	case api.StepCheck:
		m.check()
	case api.StepAdjust:
		m.adjust(s.Request)
	case api.StepCrash:
		m.crash(s.Mask)
	case api.StepDrop:
		m.drop()
	}
	return api.Answer{}
}

func (m *Machine) call(c api.Call) api.Answer {
	a, why := m.fs.Do(c)
	must(why)
	return a
}

// write sends the nth block that is ready.
func (m *Machine) write(n int) {
	v := m.fs.Volume()
	ready := v.Ready()
	must(v.Write(ready[place(n, len(ready))]))
}

// complete has the nth write of the queue done, or fail. That it failed is no
// error of the step.
func (m *Machine) complete(n int, ok bool) {
	v := m.fs.Volume()
	if why := v.Complete(place(n, len(v.Way())), ok); why != api.ErrIO {
		must(why)
	}
}

// place is the nth of so many, going round; there must be some.
func place(n, many int) int {
	refuseIf(many == 0, api.ErrStep)
	return max(n, 0) % many
}

// takeSnap takes a snapshot with room for so many blocks, and begins a checker.
func (m *Machine) takeSnap(room int) {
	refuseIf(m.snap != nil, api.ErrState)
	s, why := snap.Take(m.fs.Volume(), m.fs.Geom(), m.taken+1, min(max(room, 0), mostRoom))
	must(why)
	c, why := check.New(s)
	must(why) // never refused: the snapshot was just taken
	m.snap, m.checker = s, c
	m.taken++
}

// check has the checker do a step. If that can't be done, what was asked so far
// goes with the snapshot: the next one's checker asks it again.
func (m *Machine) check() {
	refuseIf(m.snap == nil, api.ErrState)
	asked, why := m.checker.Step()
	if why != api.OK || m.snap.Broken() {
		m.drop()
		refuse(api.ErrState)
	}
	m.asked = append(m.asked, asked...)
	if m.checker.Done() {
		m.dropSnap()
	}
}

// adjust makes a request, or the first that was asked, which is asked no more
// even if it is refused.
func (m *Machine) adjust(r api.Request) {
	if r == (api.Request{}) {
		refuseIf(len(m.asked) == 0, api.ErrStep)
		r = m.asked[0]
		m.asked = slices.Delete(m.asked, 0, 1)
	}
	_, why := adjust.Do(m.fs.Volume(), m.fs.Geom(), m.fs.Open(), r, m.taken)
	must(why)
	m.freed = append(m.freed, r)
}

// crash has some writes of the queue done, loses the others, and mounts what is
// left.
func (m *Machine) crash(mask uint64) {
	m.disk.Crash(m.doneBy(mask)) // never refused: these are the queue's own
	m.snap, m.checker, m.asked = nil, nil, nil
	fs, why := vfs.Mount(m.disk)
	m.fs = fs
	must(why)
}

// doneBy is the numbers of the queue's writes at those places whose bits a mask
// has.
func (m *Machine) doneBy(mask uint64) []int {
	var done []int
	for i, w := range m.disk.Queue() {
		if mask>>i&1 == 1 {
			done = append(done, w.ID)
		}
	}
	return done
}

// drop drops the snapshot and the checker, with what it asked.
func (m *Machine) drop() {
	refuseIf(m.snap == nil, api.ErrState)
	m.dropSnap()
	m.asked = nil
}

// dropSnap leaves what was asked.
func (m *Machine) dropSnap() {
	m.snap.Drop() // refused only if another one has dropped it
	m.snap, m.checker = nil, nil
}
