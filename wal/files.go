package wal

import (
	"slices"
	"strconv"
	"strings"

	"muniment/api"
	"muniment/wire"
)

// How the names of the files begin.
const (
	basePrefix    = "base-"
	segmentPrefix = "seg-"
)

// baseName is the name of a generation's base.
func baseName(generation int) string { return basePrefix + strconv.Itoa(generation) }

// segmentsPrefix is how the names of its generation's segments begin.
func (l *Log) segmentsPrefix() string { return segmentPrefix + strconv.Itoa(l.generation) + "-" }

// segmentName is the name of its generation's segment of a number.
func (l *Log) segmentName(n int) string { return l.segmentsPrefix() + strconv.Itoa(n) }

// isOther tells whether a name is that of a file of another generation.
func (l *Log) isOther(name string) bool {
	if strings.HasPrefix(name, basePrefix) {
		return name != baseName(l.generation)
	}
	return strings.HasPrefix(name, segmentPrefix) && !strings.HasPrefix(name, l.segmentsPrefix())
}

// newest is the greatest generation that has a base among names, or 0.
func newest(names []string) int {
	if l := numbers(names, basePrefix); len(l) > 0 {
		return l[len(l)-1]
	}
	return 0
}

// numbers is the numbers from 1 on of those names that have nothing else behind a prefix, rising.
func numbers(names []string, prefix string) []int {
	var l []int
	for _, name := range names {
		rest, found := strings.CutPrefix(name, prefix)
		n, err := strconv.Atoi(rest)
		if found && err == nil && n >= 1 && strconv.Itoa(n) == rest {
			l = append(l, n)
		}
	}
	slices.Sort(l)
	return l
}

// frames is the frames of texts, one behind the other.
func frames(texts ...string) string {
	var b strings.Builder
	for _, s := range texts {
		b.WriteString(wire.Frame(s))
	}
	return b.String()
}

// unframe is the texts of the frames of bytes up to the first one that is not whole and right, and where that one begins.
func unframe(s string) ([]string, int) {
	var texts []string
	at := 0
	for at < len(s) {
		text, behind, e := wire.Unframe(s, at)
		if e != api.OK {
			break
		}
		texts, at = append(texts, text), behind
	}
	return texts, at
}

// inTurn does one step behind the other, up to the first one that fails: its error.
func inTurn(steps ...func() api.Errno) api.Errno {
	for _, step := range steps {
		if e := step(); e != api.OK {
			return e
		}
	}
	return api.OK
}
