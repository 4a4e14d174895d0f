package cone

import (
	"iter"
	"strings"
)

const (
	root     = ""
	rootLine = "*"
	lineEnd  = "\n"
	remark   = "#"
)

// said goes through the lines that say something, with their numbers.
func said(text string) iter.Seq2[int, string] {
	return func(yield func(int, string) bool) {
		rest, more := text, true
		for at := 1; more; at++ {
			var line string
			line, rest, more = strings.Cut(rest, lineEnd)
			if !isSilent(line) && !yield(at, line) {
				return
			}
		}
	}
}

// isSilent tells whether a line says nothing.
func isSilent(line string) bool {
	return line == "" || strings.HasPrefix(line, remark)
}

// dirOf is the directory that a line says, if it says one.
func dirOf(line string) (string, bool) {
	if line == rootLine {
		return root, true
	}
	return line, !isSilent(line) && !isNone(line)
}

// lineOf is the line that says a directory, if one does.
func lineOf(dir string) (string, bool) {
	if dir == root {
		return rootLine, true
	}
	said, ok := dirOf(dir)
	return dir, ok && said == dir && !strings.Contains(dir, lineEnd)
}
