package wal

import (
	"slices"

	"muniment/api"
)

// begin lays the first generation if there is none, else takes what there is of the one that counts: how many bytes were torn.
func (l *Log) begin() (int, api.Errno) {
	if l.generation == 0 {
		return 0, l.Reset("", nil)
	}
	used, torn := l.disk.Used(), 0
	e := inTurn(
		l.readBase,
		l.readSegments,
		func() api.Errno {
			torn = used - l.disk.Used()
			return api.OK
		},
		l.sweep,
	)
	return torn, e
}

// readBase takes the snapshot, and the records that were laid with it.
func (l *Log) readBase() api.Errno {
	s, e := l.disk.Read(baseName(l.generation))
	if e != api.OK {
		return e
	}
	texts, right := unframe(s)
	if right < len(s) || len(texts) == 0 {
		return api.ErrForm
	}
	l.snap, l.records = texts[0], texts[1:]
	return api.OK
}

// readSegments takes the records of the segments, from the first one on; what stands behind a frame that is not right goes.
func (l *Log) readSegments() api.Errno {
	for {
		s, e := l.disk.Read(l.segmentName(l.segments + 1))
		if e != api.OK {
			return api.OK
		}
		texts, right := unframe(s)
		l.records = append(l.records, texts...)
		l.segments, l.last = l.segments+1, right
		if right < len(s) {
			return l.mend()
		}
	}
}

// mend takes away the segments behind the last one that counts, and then what is not right of that one: till then a fall leaves it to be seen that it is torn, and no segment is missing between others.
func (l *Log) mend() api.Errno {
	var steps []func() api.Errno
	for _, n := range slices.Backward(numbers(l.disk.Names(), l.segmentsPrefix())) {
		if n > l.segments {
			steps = append(steps, func() api.Errno { return l.disk.Remove(l.segmentName(n)) }, l.disk.Sync)
		}
	}
	steps = append(steps, func() api.Errno { return l.disk.Truncate(l.segmentName(l.segments), l.last) }, l.disk.Sync)
	return inTurn(steps...)
}

// sweep takes away the files of other generations, and what was not laid to its end.
func (l *Log) sweep() api.Errno {
	var steps []func() api.Errno
	for _, name := range l.disk.Names() {
		if l.isOther(name) {
			steps = append(steps, func() api.Errno { return l.disk.Remove(name) })
		}
	}
	if len(steps) > 0 {
		steps = append(steps, l.disk.Sync)
	}
	return inTurn(steps...)
}
