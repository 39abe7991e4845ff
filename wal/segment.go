package wal

import (
	"strconv"
	"strings"
)

const (
	prefix   = "wal-"
	digits   = 10
	greatest = 9999999999 // the greatest number of so many digits
	fresh    = "new"      // the file in which a segment is laid ahead of being one
)

// segmentName is the file's name that has a number.
func segmentName(number uint64) string {
	s := strconv.FormatUint(number, 10)
	return prefix + strings.Repeat("0", digits-len(s)) + s
}

// segmentNumber is the number that a file's name says, if it is a segment's.
func segmentNumber(name string) (uint64, bool) {
	s, is := strings.CutPrefix(name, prefix)
	if !is || len(s) != digits {
		return 0, false
	}
	n, e := strconv.ParseUint(s, 10, 64)
	return n, e == nil
}

// newest is the greatest number of all segments that there are.
func newest(names []string) (uint64, bool) {
	number, there := uint64(0), false
	for _, name := range names {
		if n, is := segmentNumber(name); is {
			number, there = max(number, n), true
		}
	}
	return number, there
}
