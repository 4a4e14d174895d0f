package cone_test

import (
	"slices"
	"strings"
	"testing"

	"tussock/api"
)

// P18.2: the chapter's examples.
func TestParseExamples(t *testing.T) {
	wantRead(t, "# mine\na/c\n\nb", "a/c", "b")
	wantUnread(t, "a\nb//c", 2, api.ErrConeLine)
}

// P18.2: texts that say nothing.
func TestParseNothing(t *testing.T) {
	for _, text := range []string{"", "\n", "\n\n", strings.Repeat("\n", 10000), "#", "#\n", "#a", "##", "# a//b", "#/", "#\x00", "#*", "#\n\n#a\n", "#" + strings.Repeat("n", 100000)} {
		wantRead(t, text)
	}
}

// P18.2: with and without the byte 0A at the end, and with several.
func TestParseEnds(t *testing.T) {
	for _, end := range []string{"", "\n", "\n\n", "\n#", "\n#\n"} {
		wantRead(t, "a"+end, "a")
		wantRead(t, "b\na/c"+end, "a/c", "b")
		wantRead(t, "\n\n#\nb"+end, "b")
		wantRead(t, "*"+end, "")
		wantUnread(t, "a/"+end, 1, api.ErrConeLine)
		wantUnread(t, "a\n\n/"+end, 3, api.ErrConeLine)
	}
}

// P18.2: the line of one star says the empty path, alone, among others, many times; a name that begins with one is a name, and the root is no line's own.
func TestParseStars(t *testing.T) {
	wantRead(t, "*", "")
	wantRead(t, "*\n*\n*", "")
	wantRead(t, "a\n*\nb", "")
	wantRead(t, "**", "**")
	wantRead(t, "*a\n*/b\n**/c", "*/b", "**/c", "*a")
	wantRead(t, "a/*\na*\n* ", "* ", "a/*", "a*")
	wantRead(t, " *", " *")
	wantUnread(t, "*\n*/", 2, api.ErrConeLine)
	wantUnread(t, "/*", 1, api.ErrConeLine)
}

// P18.2: a sign further back in a line is a part of it, and so are blanks and the byte 0D: lines are not mended.
func TestParseAsItIs(t *testing.T) {
	wantRead(t, "a#", "a#")
	wantRead(t, " #", " #")
	wantRead(t, "a/#b", "a/#b")
	wantRead(t, " ", " ")
	wantRead(t, "   \n\t", "\t", "   ")
	wantRead(t, "a \na\n a", " a", "a", "a ")
	wantRead(t, "a\r\nb\r\n", "a\r", "b\r")
	wantRead(t, "\r\n", "\r")
	wantRead(t, "*\r\n", "*\r")
	wantRead(t, "#\r\na", "a")
	wantRead(t, "\xFF\n\xC3", "\xC3", "\xFF")
	wantRead(t, "a,b;c d\ne\vf", "a,b;c d", "e\vf")
}

// P18.2: Of's one form: sorted, once, none within another one.
func TestParseForm(t *testing.T) {
	wantRead(t, "b\na/c\na/c/d\nb", "a/c", "b")
	wantRead(t, "a/b\na\na-b\na/c", "a", "a-b")
	wantRead(t, strings.Repeat("a/b\n", 5000), "a/b")
	back := alike()
	slices.Reverse(back)
	wantRead(t, strings.Join(back, "\n"), alike()...)
}

// P18.2: the number of the first line that says no path; lines that say nothing count.
func TestParseWrong(t *testing.T) {
	for _, x := range wrongTexts() {
		wantUnread(t, x, 1, api.ErrConeLine)
		wantUnread(t, x+"\na\nb", 1, api.ErrConeLine)
		wantUnread(t, "a\nb\n"+x, 3, api.ErrConeLine)
		wantUnread(t, "a\n"+x+"\nb\n", 2, api.ErrConeLine)
		wantUnread(t, "\n\n# a\n\n"+x, 5, api.ErrConeLine)
		wantUnread(t, "*\n"+x+"\n"+x, 2, api.ErrConeLine)
		wantUnread(t, strings.Repeat("\n", 999)+x, 1000, api.ErrConeLine)
		wantUnread(t, strings.Repeat("#\n", 3)+strings.Repeat("a\n", 70)+x, 74, api.ErrConeLine)
	}
	wantUnread(t, "a\nb//c\n/", 2, api.ErrConeLine)
	wantUnread(t, "a\n\x00#", 2, api.ErrConeLine)
}

// P18.2: ErrConeMany of what lines say has no number, and stands behind ErrConeLine, wherever the line is.
func TestParseMany(t *testing.T) {
	for _, n := range []int{63, 64} {
		wantRead(t, strings.Join(numbered(n), "\n"), numbered(n)...)
		wantRead(t, "#\n\n"+strings.Join(numbered(n), "\n\n")+"\n", numbered(n)...)
	}
	many := strings.Join(numbered(65), "\n")
	wantUnread(t, many, 0, api.ErrConeMany)
	wantUnread(t, many+"\n", 0, api.ErrConeMany)
	wantUnread(t, many+"\na//b", 66, api.ErrConeLine)
	wantUnread(t, "a//b\n"+many, 1, api.ErrConeLine)
	wantUnread(t, many+"\n"+many+"\n#\n/", 132, api.ErrConeLine)
	wantRead(t, many+"\nd", "d")
	wantRead(t, "d\n"+many+"\n"+many, "d")
	wantRead(t, many+"\n*", "")
}

// P18.2: all short texts of the bytes that the chapter speaks of, and some beside.
func TestParseShortTexts(t *testing.T) {
	last := []string{""}
	for range 6 {
		var next []string
		for _, s := range last {
			wantParse(t, s)
			for _, c := range []string{"\n", "#", "*", "/", "a"} {
				next = append(next, s+c)
			}
		}
		last = next
	}
}

// P18.2: one line a directory, each with the byte 0A behind, in the one form.
func TestShow(t *testing.T) {
	wantShown(t, nil, "")
	wantShown(t, []string{}, "")
	wantShown(t, []string{"a"}, "a\n")
	wantShown(t, []string{"b", "a", "a/x"}, "a\nb\n")
	wantShown(t, []string{"b", "a/c", "a/c/d", "b"}, "a/c\nb\n")
	wantShown(t, []string{""}, "*\n")
	wantShown(t, []string{"a", "", "b"}, "*\n")
	wantShown(t, []string{"**", "*a", "a*", "* ", " *"}, " *\n* \n**\n*a\na*\n")
	wantShown(t, []string{" ", "\r", "a\r"}, "\r\n \na\r\n")
	wantShown(t, alike(), strings.Join(alike(), "\n")+"\n")
	wantShown(t, numbered(64), strings.Join(numbered(64), "\n")+"\n")
	long := copies(strings.Repeat("n", 64), 16)
	wantShown(t, []string{long, copies("a", 16)}, copies("a", 16)+"\n"+long+"\n")
}

// P18.2: Of's errors stand ahead of that of a directory that no line says.
func TestShowOfsErrors(t *testing.T) {
	for _, x := range wrongTexts() {
		wantNotShown(t, api.ErrPathForm, x)
		wantNotShown(t, api.ErrPathForm, "a", x)
		wantNotShown(t, api.ErrPathForm, "", x)
		wantNotShown(t, api.ErrPathForm, "*", "#", "\n", x)
		wantNotShown(t, api.ErrPathForm, x, "*")
	}
	wantNotShown(t, api.ErrPathForm, "\n/")
	wantNotShown(t, api.ErrPathForm, "#/")
	wantNotShown(t, api.ErrPathForm, append(numbered(65), "/", "*")...)
	wantNotShown(t, api.ErrConeMany, numbered(65)...)
	wantNotShown(t, api.ErrConeMany, append(numbered(64), "*")...)
	wantNotShown(t, api.ErrConeMany, append(numbered(64), "#", "a\nb")...)
	wantNotShown(t, api.ErrConeLine, append(numbered(63), "*")...)
}

// P18.2: directories that no line says: with the byte 0A anywhere, with # at the beginning, the star.
func TestShowUnsaid(t *testing.T) {
	for _, x := range []string{"\n", "a\n", "\na", "a\nb", "a/\n", "a/b\nc/d", "\n/a", "#", "#a", "#/a", "##", "#\n", "*"} {
		wantNotShown(t, api.ErrConeLine, x)
		wantNotShown(t, api.ErrConeLine, x, x)
		wantNotShown(t, api.ErrConeLine, "A", x, "z")
		wantNotShown(t, api.ErrConeLine, x, x+"/a")
		wantShown(t, []string{x, ""}, "*\n")
	}
}

// P18.2: within a directory that is told, such ones don't count; the signs further on in a path, or in a name, are as others.
func TestShowSigns(t *testing.T) {
	wantShown(t, []string{"a/\n", "a"}, "a\n")
	wantShown(t, []string{"a", "a/b\nc", "a/#", "a/*"}, "a\n")
	wantShown(t, []string{"a/#", "a/*", "a#", "a/#/*"}, "a/#\na/*\na#\n")
	wantShown(t, []string{"*/a"}, "*/a\n")
	wantShown(t, []string{"*/*", "**"}, "*/*\n**\n")
	wantNotShown(t, api.ErrConeLine, "*/a", "*")
	wantNotShown(t, api.ErrConeLine, "#", "#/a")
	wantNotShown(t, api.ErrConeLine, "\n", "\n/a")
	wantShown(t, []string{" #", "a b", "\t#"}, "\t#\n #\na b\n")
}
