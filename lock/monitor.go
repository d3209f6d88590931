package lock

import (
	"iter"
	"slices"
)

// monitor is one object's monitor. Its zero value is free, and nobody waits at it.
type monitor struct {
	owner int           // has a meaning only if the monitor is not free, for each number may be a thread's
	times int           // how many times over it is the owner's; 0: it is free
	row   []int         // threads that wait, the first one first
	kept  map[int][]int // counts that are kept, by threads, the earliest one first
}

// isFree tells whether no thread owns it.
func (m monitor) isFree() bool { return m.times == 0 }

// isFreeFor tells whether the thread t may own it once more.
func (m monitor) isFreeFor(t int) bool { return m.isFree() || m.owner == t }

// isIdle tells whether nothing of it is to be kept. Of each thread in the row a count is kept, so that the row need not be asked.
func (m monitor) isIdle() bool { return m.isFree() && len(m.kept) == 0 }

// isTold tells whether the thread t has a count that is kept, and waits no more, not even a further time.
func (m monitor) isTold(t int) bool {
	return len(m.kept[t]) > 0 && !slices.Contains(m.row, t)
}

// wait lays the owner at the end of the row, keeps its count, and frees the monitor.
func (m *monitor) wait() {
	if m.kept == nil {
		m.kept = map[int][]int{}
	}
	m.row = append(m.row, m.owner)
	m.kept[m.owner] = append(m.kept[m.owner], m.times)
	m.times = 0
}

// cut goes over those that wait, and takes each one from the row that it comes to: behind where it is left, they wait on.
func (m *monitor) cut() iter.Seq[int] {
	return func(yield func(int) bool) {
		for len(m.row) > 0 {
			t := m.row[0]
			m.row = m.row[1:]
			if !yield(t) {
				return
			}
		}
	}
}

// back makes the thread t the owner, as many times over as its earliest count says, which is kept no more.
func (m *monitor) back(t int) {
	counts := m.kept[t]
	m.owner, m.times = t, counts[0]
	if len(counts) == 1 {
		delete(m.kept, t)
		return
	}
	m.kept[t] = counts[1:]
}

// copied answers the same monitor in memory of its own.
func (m monitor) copied() monitor {
	m.row = slices.Clone(m.row)
	kept := make(map[int][]int, len(m.kept))
	for t, counts := range m.kept {
		kept[t] = slices.Clone(counts)
	}
	m.kept = kept
	return m
}
