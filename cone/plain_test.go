package cone_test

import (
	"slices"
	"strings"

	"tussock/api"
)

// What follows says by the chapter's words, and by other means than the program, what the calls must answer.

// partsOf are a path's parts, if it is one.
func partsOf(s string) ([]string, bool) {
	if s == "" {
		return nil, true
	}
	parts := strings.Split(s, "/")
	for _, x := range parts {
		if x == "" || x == "." || x == ".." || len(x) > 64 || strings.Contains(x, "\x00") {
			return nil, false
		}
	}
	return parts, len(parts) <= 16
}

// lies tells whether s lies within dir, both being paths.
func lies(s, dir string) bool {
	parts, ok := partsOf(s)
	first, ok2 := partsOf(dir)
	return ok && ok2 && len(first) <= len(parts) && slices.Equal(parts[:len(first)], first)
}

func plainOf(dirs ...string) ([]string, api.Errno) {
	var form []string
	there := map[string]int{}
	for _, x := range dirs {
		if _, ok := partsOf(x); !ok {
			return nil, api.ErrPathForm
		}
		there[x]++
	}
	for x := range there {
		inner := false
		for y := range there {
			inner = inner || x != y && lies(x, y)
		}
		if !inner {
			form = append(form, x)
		}
	}
	if len(form) > 64 {
		return nil, api.ErrConeMany
	}
	slices.SortFunc(form, func(x, y string) int {
		a, _ := partsOf(x)
		b, _ := partsOf(y)
		return slices.Compare(a, b)
	})
	return form, api.OK
}

func plainParse(text string) ([]string, int, api.Errno) {
	var dirs []string
	for i, line := range strings.Split(text, "\n") {
		if line == "" || line[0] == '#' {
			continue
		}
		if line == "*" {
			dirs = append(dirs, "")
		} else if _, ok := partsOf(line); ok {
			dirs = append(dirs, line)
		} else {
			return nil, i + 1, api.ErrConeLine
		}
	}
	form, e := plainOf(dirs...)
	return form, 0, e
}

func plainShow(dirs ...string) (string, api.Errno) {
	form, e := plainOf(dirs...)
	text := ""
	for _, x := range form {
		switch {
		case x == "":
			text += "*\n"
		case x == "*" || x[0] == '#' || strings.Contains(x, "\n"):
			return "", api.ErrConeLine
		default:
			text += x + "\n"
		}
	}
	return text, e
}

func plainHas(cone []string, p string) bool {
	parts, ok := partsOf(p)
	if !ok || len(parts) == 0 {
		return false
	}
	stands := strings.Join(parts[:len(parts)-1], "/")
	for _, x := range cone {
		if lies(p, x) || lies(x, stands) {
			return true
		}
	}
	return stands == ""
}

func plainDir(cone []string, p string) int {
	most := 0
	for _, x := range cone {
		if lies(p, x) {
			return 2
		}
		if lies(x, p) {
			most = 1
		}
	}
	if p == "" {
		return 1
	}
	return most
}
