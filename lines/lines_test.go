package lines_test

import (
	"fmt"
	"math/rand"
	"regexp"
	"slices"
	"strings"
	"sync"
	"testing"

	"matins/api"
	"matins/lines"
)

// The limits are written out, so that the tests do not hang on package api alone.
const (
	maxText = 20000
	maxLine = 400
)

// The forms of the chapter, told independently of the package.
var (
	blank       = regexp.MustCompile(`^[ \t]*$`)
	comment     = regexp.MustCompile(`^[ \t]*[#;]`)
	control     = regexp.MustCompile(`[\x00-\x08\x0a-\x1f\x7f]`)
	sectionLine = regexp.MustCompile(`^[ \t]*\[([a-zA-Z]{1,20})\][ \t]*$`)
	bracket     = regexp.MustCompile(`^[ \t]*\[`)
	keyLine     = regexp.MustCompile(`(?s)^[ \t]*([a-zA-Z0-9]{1,40})[ \t]*=[ \t]*(.*)$`)
	lastBlanks  = regexp.MustCompile(`[ \t]+$`)
	soundKey    = regexp.MustCompile(`^[a-zA-Z0-9]{1,40}$`)
	soundName   = regexp.MustCompile(`^[a-zA-Z]{1,20}$`)
	soundValue  = regexp.MustCompile(`^(?:[^\x00-\x20\x7f](?:[^\x00-\x08\x0a-\x1f\x7f]*[^\x00-\x20\x7f])?)?$`)
)

// joined is a logical line, or a physical line that is blank.
type joined struct {
	text  string
	at    int
	blank bool
}

// joinLines returns the lines of a text. It goes from the last one to the first
// one: so what is to be appended to a line is complete when that line is read.
func joinLines(text string) []joined {
	physical := strings.SplitAfter(text, "\n")
	var result []joined
	for i, line := range slices.Backward(physical) {
		line = strings.TrimSuffix(line, "\n")
		switch {
		case i == len(physical)-1 && line == "" || comment.MatchString(line):
		case !strings.HasSuffix(line, `\`):
			result = append(result, joined{line, i + 1, blank.MatchString(line)})
		default:
			line = line[:len(line)-1] + " "
			if last := len(result) - 1; last >= 0 {
				line += result[last].text
				result = result[:last]
			}
			result = append(result, joined{line, i + 1, false})
		}
	}
	slices.Reverse(result)
	return result
}

// expected returns what Parse(text) is to return.
func expected(text string) ([]api.Line, api.Fault) {
	if len(text) > maxText {
		return nil, api.Fault{Code: api.ErrLong}
	}
	var result []api.Line
	section := ""
	for _, line := range joinLines(text) {
		if line.blank {
			continue
		}
		name, entry := sectionLine.FindStringSubmatch(line.text), keyLine.FindStringSubmatch(line.text)
		err := api.OK
		switch {
		case control.MatchString(line.text):
			err = api.ErrForm
		case len(line.text) > maxLine:
			err = api.ErrLong
		case blank.MatchString(line.text):
		case name != nil:
			section = name[1]
		case bracket.MatchString(line.text):
			err = api.ErrSection
		case entry == nil:
			err = api.ErrLine
		case section == "":
			err = api.ErrSection
		default:
			value := lastBlanks.ReplaceAllString(entry[2], "")
			result = append(result, api.Line{Section: section, Key: entry[1], Value: value, At: line.at})
		}
		if err != api.OK {
			return nil, api.Fault{Code: err, At: line.at}
		}
	}
	return result, api.Fault{}
}

// printed returns what Print(l) and May(l) are to return.
func printed(l []api.Line) (string, bool) {
	text := ""
	for i, line := range l {
		if !soundName.MatchString(line.Section) || !soundKey.MatchString(line.Key) || !soundValue.MatchString(line.Value) ||
			strings.HasSuffix(line.Value, `\`) || len(line.Key+"="+line.Value) > maxLine {
			return "", false
		}
		if i == 0 {
			text += "[" + line.Section + "]\n"
		} else if line.Section != l[i-1].Section {
			text += "\n[" + line.Section + "]\n"
		}
		if text += line.Key + "=" + line.Value + "\n"; len(text) > maxText {
			return "", false
		}
	}
	return text, true
}

// show writes the first lines of a list.
func show(l []api.Line) string {
	var texts []string
	for _, x := range l[:min(len(l), 8)] {
		texts = append(texts, fmt.Sprintf("%d: [%.100q] %.100q=%.300q", x.At, x.Section, x.Key, x.Value))
	}
	return fmt.Sprintf("%d lines (%s)", len(l), strings.Join(texts, ", "))
}

func checkLines(t *testing.T, text string, want ...api.Line) {
	t.Helper()
	if got, fault := lines.Parse(text); !slices.Equal(got, want) || fault != (api.Fault{}) {
		t.Errorf("Parse(%.300q) = %s, {%d %d}, want %s", text, show(got), fault.Code, fault.At, show(want))
	}
}

func checkFault(t *testing.T, code api.Errno, at int, texts ...string) {
	t.Helper()
	for _, text := range texts {
		if got, fault := lines.Parse(text); len(got) != 0 || fault != (api.Fault{Code: code, At: at}) {
			t.Errorf("Parse(%.300q) = %s, {%d %d}, want {%d %d}", text, show(got), fault.Code, fault.At, code, at)
		}
	}
}

func checkByForm(t *testing.T, text string) {
	t.Helper()
	want, fault := expected(text)
	if fault != (api.Fault{}) {
		checkFault(t, fault.Code, fault.At, text)
		return
	}
	checkLines(t, text, want...)
}

// checkValue checks what the lines under a section header, of which there is but
// one logical line that is not skipped, yield.
func checkValue(t *testing.T, text, key, value string, at int) {
	t.Helper()
	checkLines(t, "[S]\n"+text, api.Line{Section: "S", Key: key, Value: value, At: at})
}

// checkPrint checks Print(l) and May(l), and that Parse reverses them.
func checkPrint(t *testing.T, want string, l ...api.Line) {
	t.Helper()
	if got, may := lines.Print(l), lines.May(l); got != want || !may {
		t.Errorf("Print(%s) = %.500q, May: %v, want %.500q", show(l), got, may, want)
	}
	got, fault := lines.Parse(want)
	if fault != (api.Fault{}) || !slices.Equal(withoutAt(got), withoutAt(l)) {
		t.Errorf("Parse(%.300q) = %s, {%d %d}, want %s", want, show(got), fault.Code, fault.At, show(l))
	}
}

func checkNoPrint(t *testing.T, l ...api.Line) {
	t.Helper()
	if got, may := lines.Print(l), lines.May(l); got != "" || may {
		t.Errorf("Print(%s) = %.500q, May: %v", show(l), got, may)
	}
}

func checkPrintByForm(t *testing.T, l ...api.Line) {
	t.Helper()
	if want, may := printed(l); may {
		checkPrint(t, want, l...)
	} else {
		checkNoPrint(t, l...)
	}
}

func withoutAt(l []api.Line) []api.Line {
	l = slices.Clone(l)
	for i := range l {
		l[i].At = 0
	}
	return l
}

// line returns a line in section S.
func line(key, value string, at int) api.Line {
	return api.Line{Section: "S", Key: key, Value: value, At: at}
}

// P7.1: physical lines

func TestParseNothing(t *testing.T) {
	for _, text := range []string{"", "\n", "\n\n\n", " ", "\t", " \t \n\t\n  ", "[A]", "[A]\n", "[A]\n[B]\n[A]\n", "# a", "; a\n#\n;", "\\", "\\\n", " \\\n\t\\\n\n"} {
		checkLines(t, text)
	}
}

func TestParseLines(t *testing.T) {
	checkLines(t, "[Unit]\nDescription=a b\n\n[Service]\nExecStart=/bin/a\nType=oneshot\n",
		api.Line{Section: "Unit", Key: "Description", Value: "a b", At: 2},
		api.Line{Section: "Service", Key: "ExecStart", Value: "/bin/a", At: 5},
		api.Line{Section: "Service", Key: "Type", Value: "oneshot", At: 6},
	)
	checkLines(t, "[A]\na=1\na=1\na=2\nb=1\na=1", []api.Line{
		{Section: "A", Key: "a", Value: "1", At: 2}, {Section: "A", Key: "a", Value: "1", At: 3},
		{Section: "A", Key: "a", Value: "2", At: 4}, {Section: "A", Key: "b", Value: "1", At: 5},
		{Section: "A", Key: "a", Value: "1", At: 6},
	}...)
}

func TestTheEndOfTextEndsALine(t *testing.T) {
	checkLines(t, "[S]\na=b", line("a", "b", 2))
	checkLines(t, "[S]\na=b\n", line("a", "b", 2))
	checkLines(t, "[S]\na=b\n\n", line("a", "b", 2))
	checkFault(t, api.ErrLine, 1, "a", "a\n", "a\n\n")
}

// Only byte 10 ends a line.
func TestOtherBytesEndNoLine(t *testing.T) {
	checkFault(t, api.ErrForm, 1, "[S]\r\na=b\r\n", "[S]\r", "\r", "\r\n", " \r\n", "[S]\x0b", "\x0c\n")
	checkFault(t, api.ErrForm, 2, "[S]\na=b\r\n", "[S]\na=b\rc=d", "[S]\n\r\n")
	checkValue(t, "a=b\u2028c\u0085d", "a", "b\u2028c\u0085d", 2)
}

func TestBlankLinesAreSkippedButCounted(t *testing.T) {
	checkLines(t, "\n \n\t\n[S]\n \t \n\na=b\n\n\nc=d\n \t", line("a", "b", 7), line("c", "d", 10))
	checkFault(t, api.ErrLine, 4, "\n\n\na", " \n\t\n\t \na\n")
}

// A blank line is skipped ahead of all else, however long it is.
func TestLongBlankLinesAreSkipped(t *testing.T) {
	long := strings.Repeat(" \t", 300)
	checkLines(t, long+"\n[S]\n"+long+"\na=b\n"+long, line("a", "b", 4))
	checkLines(t, strings.Repeat(" ", maxText))
	checkFault(t, api.ErrLong, 1, long+`\`, `\`+"\n"+long)
}

func TestCommentsAreSkippedButCounted(t *testing.T) {
	checkLines(t, "# a\n;b\n[S]\n # c\n\t; d\na=b\n \t \t#\n;\nc=d\n#", line("a", "b", 6), line("c", "d", 9))
	checkLines(t, "#[A]\n;[B]\n[S]\n#x\n;y=z\n #y=z\n#a=b\na=b\n", line("a", "b", 8))
	checkFault(t, api.ErrLine, 3, "#\n;\na")
	checkFault(t, api.ErrLine, 2, "#\n/#\n", "#\n-;")
}

// Nothing in a comment is an error.
func TestCommentsHoldAnything(t *testing.T) {
	for n := range 256 {
		c := string([]byte{byte(n)})
		if c != "\n" {
			checkLines(t, "[S]\n#"+c+"\n ;"+c+"x"+c+"\na=b", line("a", "b", 4))
		}
	}
	long := strings.Repeat("\x01", 500)
	checkLines(t, "#"+long+"\n[S]\n;"+long+"\n#[\n#=\na=b", line("a", "b", 6))
	checkLines(t, "#"+strings.Repeat("a", maxText-1))
}

// A comment is not continued.
func TestCommentsEndAtTheirLine(t *testing.T) {
	checkLines(t, "[S]\n# x \\\na=b\n;\\\nc=d\n#\\", line("a", "b", 3), line("c", "d", 5))
}

func TestCommentSignsElsewhere(t *testing.T) {
	checkValue(t, "a=#b", "a", "#b", 2)
	checkValue(t, "a=b # c ; d", "a", "b # c ; d", 2)
	checkValue(t, "a=;", "a", ";", 2)
	checkFault(t, api.ErrLine, 2, "[S]\na#b=c", "[S]\na;=c", "[S]\na # =")
	checkFault(t, api.ErrSection, 1, "[S]#", "[S] # c", "[S];")
	for n := range 256 {
		if c := string([]byte{byte(n)}); c != "#" && c != ";" {
			checkByForm(t, "[S]\n"+c+"# a=b\n")
			checkByForm(t, "[S]\n"+c+"\n")
			checkByForm(t, "[S]\na=b"+c+"c=d")
		}
	}
}

// P7.1: logical lines

func TestContinuedLines(t *testing.T) {
	checkValue(t, "a=b\\\nc", "a", "b c", 2)
	checkValue(t, "a=b \\\n c\n", "a", "b   c", 2)
	checkValue(t, "a=b\\\n\tc\\\nd\\\ne", "a", "b \tc d e", 2)
	checkValue(t, "a\\\n=b", "a", "b", 2)
	checkValue(t, "\\\na=b", "a", "b", 2)
	checkValue(t, "\\\n\\\n \\\na=b", "a", "b", 2)
	checkValue(t, "a=\\\nb=c", "a", "b=c", 2)
	checkValue(t, "a=b\\\n[T]", "a", "b [T]", 2)
	checkValue(t, "a=\\\n\\\nb", "a", "b", 2)
	checkLines(t, "[S]\na=b\\\nc\nd=e\\\nf\ng=h", line("a", "b c", 2), line("d", "e f", 4), line("g", "h", 6))
	checkLines(t, "[S]\\\n\na=b", line("a", "b", 3))
	checkLines(t, "\\\n[S]\na=b", line("a", "b", 3))
	checkFault(t, api.ErrSection, 1, "[S]\\\na=b", "[S\\\n]", "[\\\nS]", "[S\\", "[S]\\\n]")
	checkFault(t, api.ErrLine, 2, "[S]\na\\\nb=c", "[S]\na\\\n\nb=c", "[S]\na\\\nb")
}

// The backslash is one only as the last byte of a line, and but one is replaced.
func TestOtherBackslashes(t *testing.T) {
	checkValue(t, `a=\b\\c\n`, "a", `\b\\c\n`, 2)
	checkLines(t, "[S]\na=b\\ \nc=d\\\t\ne=f", line("a", `b\`, 2), line("c", `d\`, 3), line("e", "f", 4))
	checkValue(t, "a=b\\\\\nc", "a", `b\ c`, 2)
	checkValue(t, "a=b\\\\\\\nc", "a", `b\\ c`, 2)
	checkValue(t, "a=b\\\\", "a", `b\`, 2)
	checkValue(t, "a=b\\\\\n", "a", `b\`, 2)
	checkFault(t, api.ErrForm, 2, "[S]\na=b\\\r\nc")
	checkFault(t, api.ErrLine, 2, "[S]\n\\a=b", "[S]\na\\=b")
}

func TestCommentsWithinContinuedLines(t *testing.T) {
	checkValue(t, "a=b\\\n#c\nd", "a", "b d", 2)
	checkValue(t, "a=b\\\n # c\n\t;d\\\n#\ne", "a", "b e", 2)
	checkValue(t, "a=b\\\n#c\n\\\n;d\ne", "a", "b  e", 2)
	checkValue(t, "a=b\\\n#c", "a", "b", 2)
	checkValue(t, "a=b\\\n#c\n", "a", "b", 2)
	checkValue(t, "\\\n#c\na=b", "a", "b", 2)
	checkValue(t, "a=b\\\n#\x01"+strings.Repeat("c", 500)+"\nd", "a", "b d", 2)
	checkLines(t, "[S]\na=b\\\n#c\nd\n#e\nf=g", line("a", "b d", 2), line("f", "g", 6))
	checkLines(t, "[S]\na=b\\\n#c\n\nf=g", line("a", "b", 2), line("f", "g", 5))
	// No comment: the sign is not the first byte but blanks of its line.
	checkValue(t, "a=b\\\nc#d", "a", "b c#d", 2)
	checkValue(t, "a=b\\\n\\#d", "a", `b \#d`, 2)
}

func TestBlankLinesWithinContinuedLines(t *testing.T) {
	checkLines(t, "[S]\na=b\\\n\nc=d", line("a", "b", 2), line("c", "d", 4))
	checkLines(t, "[S]\na=b\\\n \t\nc=d", line("a", "b", 2), line("c", "d", 4))
	checkValue(t, "a=b\\\n  \\\nc", "a", "b    c", 2)
	checkValue(t, "a=b\\\n\\\n\\\nc", "a", "b   c", 2)
	checkFault(t, api.ErrLine, 4, "[S]\na=b\\\n\nc")
}

func TestTheEndOfTextEndsALogicalLine(t *testing.T) {
	for _, text := range []string{"a=b\\", "a=b\\\n", "a=b\\\n\n", "a=b\\\n\\", "a=b\\\n\\\n", "a=b\\\n \\\n\t", "a=b\\\n#", "a=b \\"} {
		checkValue(t, text, "a", "b", 2)
	}
	checkValue(t, "a=\\", "a", "", 2)
	checkValue(t, "a=\\\n", "a", "", 2)
	checkLines(t, "[S]\\")
	checkFault(t, api.ErrLine, 2, "[S]\na\\", "[S]\na\\\n", "[S]\na\\\n#=")
}

// The number is that of the first physical line.
func TestNumbersOfLogicalLines(t *testing.T) {
	checkFault(t, api.ErrLine, 2, "[S]\na\\\nb\\\nc\n", "\n\\\n\\\na")
	checkFault(t, api.ErrForm, 3, "\n\na\\\n#\nb\x01", "\n#\na=\\\n\\\n\\\n\x7f")
	checkFault(t, api.ErrLong, 4, "[S]\n#\n\na=b\\\n\\\n#\n"+strings.Repeat("c", maxLine))
	checkFault(t, api.ErrSection, 3, "[S]\n\n[T\\\n]\n")
	checkFault(t, api.ErrSection, 2, "#\na\\\n=\\\nb")
}

// P7.1: what is examined

func TestControlBytes(t *testing.T) {
	for n := range 256 {
		c := string([]byte{byte(n)})
		texts := []string{"a=b" + c + "c", "a=" + c + "b", "a=b" + c, c + "a=b", "a" + c + "=b", "a=\\\n" + c, c + "\\\n", c + "=b", c}
		for _, text := range texts {
			checkByForm(t, "[S]\n"+text)
			if (n < 32 || n == 127) && n != 9 && n != 10 {
				checkFault(t, api.ErrForm, 2, "[S]\n"+text)
			}
		}
		if n >= 32 && n != 127 && c != `\` {
			checkValue(t, "a=b"+c+"c", "a", "b"+c+"c", 2)
		}
		checkByForm(t, "[S"+c+"]\na=b")
		checkByForm(t, "["+c+"]\na=b")
		checkByForm(t, c+"[S]\na=b")
		checkByForm(t, "[S]"+c+"\na=b")
	}
	checkValue(t, "a=b\tc", "a", "b\tc", 2)
	checkValue(t, "a=\xff\x80é", "a", "\xff\x80é", 2)
}

func TestMaxLine(t *testing.T) {
	full := "a=" + strings.Repeat("b", maxLine-2)
	checkValue(t, full, "a", full[2:], 2)
	checkValue(t, full+"\n", "a", full[2:], 2)
	checkValue(t, full[:maxLine-1]+`\`, "a", full[2:maxLine-1], 2)
	checkValue(t, full[:200]+"\\\n#\n"+full[201:], "a", full[2:200]+" "+full[201:], 2)
	checkLines(t, "[S]"+strings.Repeat(" ", maxLine-3)+"\na=b", line("a", "b", 2))
	checkFault(t, api.ErrLong, 2, "[S]\n"+full+"b", "[S]\n"+full+`\`, "[S]\n"+full+" ", "[S]\n "+full, "[S]\n"+full+strings.Repeat("b", 10000),
		"[S]\n"+full[:maxLine-1]+"\\\nb", "[S]\n"+full[:maxLine-1]+"\\\n ", "[S]\n"+full[:200]+"\\\n#\n"+full[200:],
		"[S]\n"+strings.Repeat("\\\n", maxLine+1))
	checkLines(t, "[S]\n"+strings.Repeat("\\\n", maxLine))
	// What would be another error is longer than what is examined for it.
	checkFault(t, api.ErrLong, 1, strings.Repeat("a", maxLine+1), "["+strings.Repeat("a", maxLine), "[S]"+strings.Repeat(" ", maxLine-2), "a="+strings.Repeat("é", 200), "="+full)
	checkValue(t, "a="+strings.Repeat("é", 199), "a", strings.Repeat("é", 199), 2)
}

func TestSectionLines(t *testing.T) {
	longest := strings.Repeat("aZ", 10)
	for _, name := range []string{"A", "z", "Unit", longest} {
		for _, text := range []string{"[" + name + "]", " [" + name + "]", "\t[" + name + "] \t ", "[" + name + "]\\\n"} {
			checkLines(t, text+"\nk=v", api.Line{Section: name, Key: "k", Value: "v", At: 2 + strings.Count(text, "\n")})
		}
	}
	checkFault(t, api.ErrSection, 1,
		"[", "[]", "[A", "[A]]", "[[A]", "[[A]]", "[A]b", "[A] b", "[A]=b", "[A=b]", "[A]b=c", "[A=b", "[ A]", "[A ]", "[A B]", "[ ]", "[A\t]",
		"[A1]", "[1]", "[A-B]", "[A_B]", "[A.B]", "[é]", "[A\xff]", "[\u017f]", "[\u212a]", "["+longest+"a]", "["+longest+longest+"]", "[=]", "[A]#", "[A];", "[#]",
	)
	checkFault(t, api.ErrLine, 1, "]", "A]", "a[A]", "-[A]")
}

func TestLinesBelongToTheLastSection(t *testing.T) {
	checkLines(t, "[A]\na=1\n[B]\nb=2\nb=3\n[C]\n[A]\nc=4\n#[D]\nd=5", []api.Line{
		{Section: "A", Key: "a", Value: "1", At: 2}, {Section: "B", Key: "b", Value: "2", At: 4},
		{Section: "B", Key: "b", Value: "3", At: 5}, {Section: "A", Key: "c", Value: "4", At: 8},
		{Section: "A", Key: "d", Value: "5", At: 10},
	}...)
	checkLines(t, "[a]\na=1\n[A]\na=1", api.Line{Section: "a", Key: "a", Value: "1", At: 2}, api.Line{Section: "A", Key: "a", Value: "1", At: 4})
}

func TestKeys(t *testing.T) {
	longest := strings.Repeat("aZ09", 10)
	for _, key := range []string{"a", "Z", "0", "9x", "ExecStart", longest} {
		for _, text := range []string{key + "=v", " " + key + "=v", key + " = v", "\t" + key + "\t \t=v"} {
			checkValue(t, text, key, "v", 2)
		}
	}
	for _, text := range []string{
		"a", "=", "=b", " =b", "\t=", "==", "a b=c", "a\tb=c", "a-b=c", "a_=b", "a.b=c", "é=a", "\xff=a", "a\u212a=b", "a+=b", "a:=b", "a[=b", "a: b", `"a"=b`, `a\=b`,
		longest + "a=b", longest + longest + "=b", longest + " a=b", "a b", "-", "]",
	} {
		checkFault(t, api.ErrLine, 2, "[S]\n"+text)
		// It comes ahead of the missing section.
		checkFault(t, api.ErrLine, 1, text)
	}
	for n := range 256 {
		c := string([]byte{byte(n)})
		for _, key := range []string{c, "a" + c, c + "a", "a" + c + "b"} {
			checkByForm(t, "[S]\n"+key+"=v")
			checkByForm(t, key+"=v")
		}
	}
}

func TestValues(t *testing.T) {
	for text, value := range map[string]string{
		"": "", " ": "", " \t ": "", "b": "b", " b": "b", "b ": "b", "\tb\t": "b", " \t b \t c\t ": "b \t c", "=": "=", "b=c": "b=c", "= b =": "= b =", "b==c": "b==c",
		`"b c" 'd`: `"b c" 'd`, "[T]": "[T]", "#": "#", ";": ";", "%n $x": "%n $x", "\u00a0b\u2003": "\u00a0b\u2003", "\xa0": "\xa0", "\x85b\x85": "\x85b\x85", `\b`: `\b`,
	} {
		checkValue(t, "a="+text, "a", value, 2)
		checkValue(t, "a="+text+"\n", "a", value, 2)
		checkValue(t, " a ="+text, "a", value, 2)
	}
}

func TestSectionIsMissing(t *testing.T) {
	checkFault(t, api.ErrSection, 1, "a=b", "a=", " a = b ", "a=[S]", "a=b\n[S]\na=b", "a=b\nc", "a=b\n\x01")
	checkFault(t, api.ErrSection, 3, "\n#[S]\na=b\n[S]\n")
}

func TestOrderOfErrorsWithinALine(t *testing.T) {
	long := strings.Repeat("a", maxLine)
	// ErrForm comes first, also behind what is an error by itself.
	checkFault(t, api.ErrForm, 1, long+"a\x01", "[\x01", "[A]\x01", "\x01", "=\x01", "a=\x01", "a b\x7f=", long+"\\\na\\\n\x7f", " \x01 ", "[\\\n\x01")
	// Then ErrLong.
	checkFault(t, api.ErrLong, 1, "["+long, "[]"+long, "="+long, long+"a", "a="+long, "[A"+long+"]", `\`+"\n"+strings.Repeat(" ", maxLine))
	// Then a section line's ErrSection, ErrLine, and the missing section.
	checkFault(t, api.ErrSection, 1, "[=", "[a b=c", "[")
	checkFault(t, api.ErrLine, 1, "a b=c", "=", "a")
	checkFault(t, api.ErrSection, 1, "ab=c")
}

func TestTheFirstErrorCounts(t *testing.T) {
	faults := []struct {
		text string
		code api.Errno
	}{
		{"\x01", api.ErrForm}, {strings.Repeat("a", maxLine+1), api.ErrLong}, {"[", api.ErrSection}, {"=", api.ErrLine}, {"a\\\n-\\\n=b", api.ErrLine},
	}
	for _, first := range faults {
		for _, second := range faults {
			checkFault(t, first.code, 1, first.text+"\n"+second.text, first.text+"\n[S]\na=b\n"+second.text)
			checkFault(t, first.code, 5, "[S]\na=b\n#\n\n"+first.text+"\n"+second.text)
			checkFault(t, api.ErrSection, 2, "\na=b\n"+first.text+"\n"+second.text)
		}
	}
}

func TestMaxText(t *testing.T) {
	texts := []string{strings.Repeat("\n", maxText), "[S]\n" + strings.Repeat("ab=c\n", 3999) + "\n", "#" + strings.Repeat("\n#", 9999) + "\n", "[S]\n" + strings.Repeat("\n", maxText-7) + "a=b"}
	for _, text := range texts {
		if len(text) != maxText {
			t.Fatalf("a text of %d bytes", len(text))
		}
		checkByForm(t, text)
		if _, fault := lines.Parse(text); fault != (api.Fault{}) {
			t.Errorf("Parse(%.100q): {%d %d}", text, fault.Code, fault.At)
		}
		checkFault(t, api.ErrLong, 0, text+"\n", text+"#", text+text, "\x01"+text, "["+text)
	}
	checkFault(t, api.ErrForm, maxText, strings.Repeat("\n", maxText-1)+"\x01")
	checkFault(t, api.ErrLine, maxText, strings.Repeat("\n", maxText-1)+"a")
	// The length of the text comes ahead of all other errors.
	checkFault(t, api.ErrLong, 0, strings.Repeat("\x01", maxText+1), "["+strings.Repeat("\n", maxText), "a=b"+strings.Repeat("\n", maxText))
}

func TestParseOfAllShortTexts(t *testing.T) {
	for _, text := range textsOf(5, "\n", " ", `\`, "#", "[S]", "[", "a", "=", "\x01") {
		checkByForm(t, text)
	}
	for _, text := range textsOf(6, "\n", "\t", "\\\n", ";", "a=b", "c") {
		checkByForm(t, "[S]\n"+text)
	}
}

func TestParseOfRandomTexts(t *testing.T) {
	random := rand.New(rand.NewSource(1))
	pieces := []string{"\n", "\n", "\n", "\\\n", "\\\n", " ", "\t", `\`, "#", "\n#", "\n;", "[S]\n", "\n[Tt]\n", "\na=", "\nkey9 =", "=", "b", "\xff", strings.Repeat("c", 100), strings.Repeat(" ", 100)}
	for range 20000 {
		text := "[S]\n"
		for range random.Intn(30) {
			text += pieces[random.Intn(len(pieces))]
		}
		checkByForm(t, text)
	}
}

// P7.2

func TestPrint(t *testing.T) {
	checkPrint(t, "")
	checkPrint(t, "[A]\na=b\n", api.Line{Section: "A", Key: "a", Value: "b"})
	checkPrint(t, "[A]\na=\n", api.Line{Section: "A", Key: "a"})
	checkPrint(t, "[A]\na=1\nb=2\na=1\na=1\n", []api.Line{
		{Section: "A", Key: "a", Value: "1"}, {Section: "A", Key: "b", Value: "2"},
		{Section: "A", Key: "a", Value: "1"}, {Section: "A", Key: "a", Value: "1"},
	}...)
	checkPrint(t, "[A]\na=1\n\n[B]\na=1\nb=2\n\n[A]\na=1\n\n[a]\na=1\n\n[Ab]\na=1\n", []api.Line{
		{Section: "A", Key: "a", Value: "1"}, {Section: "B", Key: "a", Value: "1"}, {Section: "B", Key: "b", Value: "2"},
		{Section: "A", Key: "a", Value: "1"}, {Section: "a", Key: "a", Value: "1"}, {Section: "Ab", Key: "a", Value: "1"},
	}...)
}

func TestAtIsIgnored(t *testing.T) {
	for _, at := range []int{0, 1, -1, 1 << 40, -1 << 63, 1<<63 - 1} {
		checkPrint(t, "[S]\na=b\nc=d\n", line("a", "b", at), line("c", "d", at))
		checkNoPrint(t, line("a", "b", at), line("", "d", at))
	}
}

func TestSectionsThatMay(t *testing.T) {
	for _, name := range []string{"a", "Z", "Unit", strings.Repeat("aZ", 10)} {
		checkPrint(t, "["+name+"]\na=b\n", api.Line{Section: name, Key: "a", Value: "b"})
	}
	for _, name := range []string{"", "1", "A1", "A B", " A", "A ", "A-", "[A]", "A]", "é", "\xff", "\u017f", "A\n", "A\x00", strings.Repeat("a", 21), strings.Repeat("a", 1<<20)} {
		checkNoPrint(t, api.Line{Section: name, Key: "a", Value: "b"})
	}
}

func TestKeysThatMay(t *testing.T) {
	for _, key := range []string{"a", "Z", "0", "9a", "ExecStart", strings.Repeat("aZ09", 10)} {
		checkPrint(t, "[S]\n"+key+"=b\n", line(key, "b", 0))
	}
	for _, key := range []string{"", " ", "a ", " a", "a b", "a-b", "a_", "a=", "=", "#a", ";a", "[a", "é", "\xff", "\u212a", "a\n", "a\x00", `a\`, strings.Repeat("a", 41), strings.Repeat("a", 1<<20)} {
		checkNoPrint(t, line(key, "b", 0))
		checkNoPrint(t, line(key, "", 0))
	}
}

func TestValuesThatMay(t *testing.T) {
	for _, value := range []string{"", "b", "b c", "b\tc", "b \t c", "=", "=b=", "#", ";", "# b", "[T]", "[", "]", `\b`, `\\b`, `b\c`, `\ b`, "\u00a0", "\xff", "\x80b\x85", `"b' c`, "%n $x", "é"} {
		checkPrint(t, "[S]\na="+value+"\n", line("a", value, 0))
	}
	for _, value := range []string{" ", "\t", " b", "b ", "\tb", "b\t", "b\n", "\nb", "b\nc", "b\rc", "\x00", "b\x01", "\x1f", "\x7f", "b\x7fc", `\`, `\\`, `b\`, `b \`, "b\\\n", `\ `} {
		checkNoPrint(t, line("a", value, 0))
	}
}

func TestPrintOfEveryByte(t *testing.T) {
	for n := range 256 {
		c := string([]byte{byte(n)})
		for _, s := range []string{c, "a" + c, c + "a", "a" + c + "b"} {
			checkPrintByForm(t, api.Line{Section: s, Key: "a", Value: "b"})
			checkPrintByForm(t, line(s, "b", 0))
			checkPrintByForm(t, line("a", s, 0))
		}
		control := n < 32 && n != 9 || n == 127
		if may := lines.May([]api.Line{line("a", "b"+c+"c", 0)}); may == control {
			t.Errorf("a value with byte %d: %v", n, may)
		}
	}
}

func TestEachLineCounts(t *testing.T) {
	sound := line("a", "b", 0)
	for _, bad := range []api.Line{{}, {Section: "A"}, {Key: "a"}, {Value: "b"}, {Section: "A", Value: "b"}, {Section: "A1", Key: "a"}, line("a", " ", 0), line("-", "b", 0)} {
		checkNoPrint(t, bad)
		checkNoPrint(t, bad, sound)
		checkNoPrint(t, sound, bad)
		checkNoPrint(t, sound, sound, bad, sound)
	}
}

func TestPrintMaxLine(t *testing.T) {
	for _, size := range []int{1, 2, 39, 40} {
		key := strings.Repeat("k", size)
		most := strings.Repeat("v", maxLine-size-1)
		checkPrint(t, "[S]\n"+key+"="+most+"\n", line(key, most, 0))
		checkNoPrint(t, line(key, most+"v", 0))
		checkNoPrint(t, line(key, most+most, 0))
		checkNoPrint(t, line(key, strings.Repeat("v", 1<<20), 0))
	}
	checkPrint(t, "[S]\na="+strings.Repeat("é", 199)+"\n", line("a", strings.Repeat("é", 199), 0))
	checkNoPrint(t, line("a", strings.Repeat("é", 200), 0))
	// The header is no part of the line.
	name := strings.Repeat("S", 20)
	checkPrint(t, "["+name+"]\na="+strings.Repeat("v", maxLine-2)+"\n", api.Line{Section: name, Key: "a", Value: strings.Repeat("v", maxLine-2)})
}

// fillTo returns lines that begin with those of l and that are printed as a text
// of the given size.
func fillTo(size int, l ...api.Line) []api.Line {
	text, _ := printed(l)
	section := l[len(l)-1].Section
	for left := size - len(text); left > 0; {
		n := min(left, 200)
		if left > 200 && left < 210 {
			n = 100
		}
		left -= n
		l = append(l, api.Line{Section: section, Key: "k", Value: strings.Repeat("v", n-len("k=\n"))})
	}
	return l
}

func TestPrintMaxText(t *testing.T) {
	starts := [][]api.Line{
		{line("a", "b", 0)},
		{line("a", "b", 0), {Section: "T", Key: "a"}},
		{line("a", "b", 0), {Section: "T", Key: "a"}, line("a", "b", 0), {Section: strings.Repeat("U", 20), Key: "a"}},
	}
	for _, start := range starts {
		for size := maxText - 30; size <= maxText+30; size++ {
			checkPrintByForm(t, fillTo(size, start...)...)
		}
		full := fillTo(maxText, start...)
		if text := lines.Print(full); len(text) != maxText || !lines.May(full) {
			t.Errorf("a text of %d bytes instead of all", len(text))
		}
		checkNoPrint(t, fillTo(maxText+1, start...)...)
	}
}

// A header counts with the byte ahead of it, also at the end of the text.
func TestHeadersCount(t *testing.T) {
	last := api.Line{Section: "T", Key: "a", Value: "b"} // 9 bytes
	for size := maxText - 20; size <= maxText; size++ {
		l := append(fillTo(size, line("a", "b", 0)), last)
		if may := lines.May(l); may != (size+9 <= maxText) {
			t.Errorf("May of a text of %d bytes: %v", size+9, may)
		}
		checkPrintByForm(t, l...)
	}
	// 7 bytes of the first line, and 8 of each other one.
	var l []api.Line
	for i := range 2501 {
		l = append(l, api.Line{Section: "ST"[i%2 : i%2+1], Key: "a"})
	}
	checkPrintByForm(t, l...)
	checkNoPrint(t, l...)
	checkPrintByForm(t, l[:2500]...)
	if !lines.May(l[:2500]) {
		t.Error("2,500 lines with a header each may not be printed")
	}
}

func TestPrintOfRandomLines(t *testing.T) {
	random := rand.New(rand.NewSource(2))
	pick := func(texts ...string) string { return texts[random.Intn(len(texts))] }
	for i := range 20000 {
		l := make([]api.Line, random.Intn(12))
		for k := range l {
			l[k] = line(pick("a", "Key9", strings.Repeat("k", 40)), pick("", "v", "a b", `\s=#`, "\xff", strings.Repeat("v", 300))+pick("", "v", `\x`), random.Int())
			l[k].Section = pick("S", "S", "Tt", strings.Repeat("U", 20))
		}
		if i%4 == 0 && len(l) > 0 {
			k := random.Intn(len(l))
			l[k].Value += pick(" ", `\`, "\x01", "\x7fv", strings.Repeat("w", 100))
		}
		checkPrintByForm(t, l...)
	}
}

// What was parsed may be printed, if it has room, unless a value ends with a
// backslash that blanks followed.
func TestPrintOfParsedLines(t *testing.T) {
	for _, text := range textsOf(5, "\n", " ", `\`, "[T]\n", "\na=", "\nb=", "#") {
		parsed, _ := lines.Parse("[S]\na=" + text)
		checkPrintByForm(t, parsed...)
	}
}

// General rules

// P0.1: every call ends, also with long arguments.
func TestLongArguments(t *testing.T) {
	const length = 1 << 20
	for _, text := range []string{"\n", "\\\n", "a", "[", "#", "\x00", "[S]\na=b\n", " ", "\xff"} {
		checkFault(t, api.ErrLong, 0, strings.Repeat(text, length))
		checkByForm(t, strings.Repeat(text, maxText/len(text)))
	}
	checkNoPrint(t, make([]api.Line, length)...)
	checkNoPrint(t, slices.Repeat([]api.Line{line("a", "b", 1)}, length)...)
	checkNoPrint(t, line(strings.Repeat("a", length), strings.Repeat("b", length), 1))
	checkNoPrint(t, api.Line{Section: strings.Repeat("\x00", length), Key: "a", Value: "b"})
}

// P0.3: what a caller writes into one list changes no other one.
func TestListsAreNew(t *testing.T) {
	const text = "[S]\na=1\nb=2\nc=3\n[T]\nd=4\ne=5\n"
	first, _ := lines.Parse(text)
	second, _ := lines.Parse(text)
	for i := range first[:cap(first)] {
		first[:cap(first)][i] = line("x", "y", 1)
	}
	if want, _ := expected(text); !slices.Equal(second, want) {
		t.Errorf("a list that another call returned is now %s", show(second))
	}
	checkByForm(t, text)
}

// P0.3: May and Print keep and change nothing of their argument, not even behind
// its end.
func TestArgumentsAreLeft(t *testing.T) {
	l := []api.Line{line("a", "1", 7), line("b", "2", 7), line("-", "behind", 7)}
	before := slices.Clone(l)
	text, may := lines.Print(l[:2]), lines.May(l[:2])
	if !slices.Equal(l, before) {
		t.Errorf("the lines are now %s", show(l))
	}
	clear(l)
	if want := "[S]\na=1\nb=2\n"; text != want || !may {
		t.Errorf("Print: %q, May: %v, want %q", text, may, want)
	}
}

// P0.4: nil and an empty list are the same.
func TestNilAndEmpty(t *testing.T) {
	for _, l := range [][]api.Line{nil, {}} {
		if text, may := lines.Print(l), lines.May(l); text != "" || !may {
			t.Errorf("Print of nothing: %q, May: %v", text, may)
		}
	}
}

// P0.5: a call answers the same whatever was called before it or is called beside it.
func TestCallsKeepNothing(t *testing.T) {
	var group sync.WaitGroup
	texts := textsOf(4, "\n", "[T]", `\`, "a=", "b", "#")
	for i := range 4 {
		group.Go(func() {
			for k := range texts {
				text := "[S]\n" + texts[(k*7+i*100)%len(texts)]
				checkByForm(t, text)
				checkByForm(t, texts[k])
				parsed, _ := expected(text)
				checkPrintByForm(t, parsed...)
			}
		})
	}
	group.Wait()
}

// textsOf returns all texts of up to the given number of pieces.
func textsOf(most int, pieces ...string) []string {
	texts := []string{""}
	last := texts
	for range most {
		var longer []string
		for _, s := range last {
			for _, p := range pieces {
				longer = append(longer, s+p)
			}
		}
		texts = append(texts, longer...)
		last = longer
	}
	return texts
}
