package name_test

import (
	"math"
	"math/rand"
	"regexp"
	"strings"
	"sync"
	"testing"

	"matins/api"
	"matins/name"
)

var kinds = map[string]int{
	"service": api.KService,
	"socket":  api.KSocket,
	"timer":   api.KTimer,
	"target":  api.KTarget,
}

// taken is what a name is expected to consist of.
type taken struct {
	prefix, instance string
	at               bool
	kind             int
}

// unitName describes the syntax of P1.1 independently of the package, but for
// the greatest length.
var unitName = regexp.MustCompile(`^([a-zA-Z0-9:\-_.\\]+)(@([a-zA-Z0-9:\-_.\\]*))?\.(service|socket|timer|target)$`)

func expected(s string) taken {
	m := unitName.FindStringSubmatch(s)
	if m == nil || len(s) > 60 {
		return taken{}
	}
	return taken{m[1], m[3], m[2] != "", kinds[m[4]]}
}

func checkSyntax(t *testing.T, s string, want taken) {
	t.Helper()
	prefix, instance, at := name.Parts(s)
	got := taken{prefix, instance, at, name.Kind(s)}
	if got != want {
		t.Errorf("%q consists of %+v, want %+v", s, got, want)
	}
	if name.May(s) != (want.kind != 0) {
		t.Errorf("May(%q) = %v", s, name.May(s))
	}
}

// P1.1

func TestSyntaxOfUnitNames(t *testing.T) {
	for _, x := range []struct {
		s    string
		want taken
	}{
		{"sshd.service", taken{"sshd", "", false, api.KService}},
		{"sshd.socket", taken{"sshd", "", false, api.KSocket}},
		{"sshd.timer", taken{"sshd", "", false, api.KTimer}},
		{"sshd.target", taken{"sshd", "", false, api.KTarget}},
		{"a.b.c.service", taken{"a.b.c", "", false, api.KService}},
		{"a.socket.service", taken{"a.socket", "", false, api.KService}},
		{"..service", taken{".", "", false, api.KService}},
		{"....target", taken{"...", "", false, api.KTarget}},
		{"-.timer", taken{"-", "", false, api.KTimer}},
		{`\.timer`, taken{`\`, "", false, api.KTimer}},
		{`\x2.timer`, taken{`\x2`, "", false, api.KTimer}},
		{"azAZ09:-_.\\.target", taken{"azAZ09:-_.\\", "", false, api.KTarget}},
		{"getty@.service", taken{"getty", "", true, api.KService}},
		{"getty@tty1.service", taken{"getty", "tty1", true, api.KService}},
		{"a.b@c.d.socket", taken{"a.b", "c.d", true, api.KSocket}},
		{"a@service.socket", taken{"a", "service", true, api.KSocket}},
		{"a.service@b.timer", taken{"a.service", "b", true, api.KTimer}},
		{"a@..timer", taken{"a", ".", true, api.KTimer}},
		{"a@azAZ09:-_.\\.target", taken{"a", "azAZ09:-_.\\", true, api.KTarget}},
	} {
		checkSyntax(t, x.s, x.want)
	}
}

func TestTextsThatAreNoUnitNames(t *testing.T) {
	for _, s := range []string{
		"", ".", "@", "@.", "a", "a@", "a.", "service", ".service", "@.service",
		"@a.service", "@@.service", "a@@.service", "a@b@.service", "a@@b.service",
		"a.service@", "a.service@b", "a@b", "a@service", "a.service.", "a.service ",
		"a.Service", "a.SERVICE", "a.services", "a.servic", "a.mount", "a.0",
		"a.service\n", "\na.service", "a.service\x00", "a.b@c",
		"a b.service", " a.service", "a/b.service", "a@b/c.service", "a%i.service",
		"é.service", "a@é.service", "a.\u017fervice", "a\xff.service", "a．service",
	} {
		checkSyntax(t, s, taken{})
	}
}

func TestLengthOfUnitNames(t *testing.T) {
	for suffix, kind := range kinds {
		for _, middle := range []string{"", "@", "@i"} {
			instance := strings.TrimPrefix(middle, "@")
			tail := middle + "." + suffix
			for length := len(tail) + 1; length <= 130; length++ {
				prefix := strings.Repeat("a", length-len(tail))
				want := taken{prefix, instance, middle != "", kind}
				if length > 60 {
					want = taken{}
				}
				checkSyntax(t, prefix+tail, want)
			}
		}
	}
	checkSyntax(t, "a@"+strings.Repeat("b", 50)+".service", taken{"a", strings.Repeat("b", 50), true, api.KService})
	checkSyntax(t, "a@"+strings.Repeat("b", 51)+".service", taken{})
}

func TestEachByteOfUnitNames(t *testing.T) {
	const allowed = "abcdefghijklmnopqrstuvwxyzABCDEFGHIJKLMNOPQRSTUVWXYZ0123456789:-_.\\"
	for c := range 256 {
		b := string([]byte{byte(c)})
		may := strings.Contains(allowed, b)
		if name.May(b+".service") != may || name.May("x"+b+"x.service") != (may || b == "@") {
			t.Errorf("byte %#x in a prefix", c)
		}
		if name.May("x@"+b+".service") != may || name.May("x@y"+b+"y.service") != may {
			t.Errorf("byte %#x in an instance string", c)
		}
	}
}

func TestSyntaxOfAllShortTexts(t *testing.T) {
	for _, s := range shortTexts() {
		checkSyntax(t, s, expected(s))
	}
}

func TestSuffix(t *testing.T) {
	for suffix, kind := range kinds {
		if got := name.Suffix(kind); got != suffix {
			t.Errorf("Suffix(%d) = %q", kind, got)
		}
	}
	for _, kind := range noKinds {
		if got := name.Suffix(kind); got != "" {
			t.Errorf("Suffix(%d) = %q", kind, got)
		}
	}
}

// P1.2

func TestTemplate(t *testing.T) {
	for _, x := range [][2]string{
		{"getty@tty1.service", "getty@.service"},
		{"a.b@c.d.socket", "a.b@.socket"},
		{"a@service.timer", "a@.timer"},
		{"a@..target", "a@.target"},
		{"getty@.service", ""},
		{"getty.service", ""},
		{"a@b.mount", ""},
		{"a@b@c.service", ""},
		{"@b.service", ""},
		{"a@b c.service", ""},
		{"a@" + strings.Repeat("b", 51) + ".service", ""},
		{"", ""},
	} {
		if got := name.Template(x[0]); got != x[1] {
			t.Errorf("Template(%q) = %q, want %q", x[0], got, x[1])
		}
	}
}

func TestTemplateOfAllShortTexts(t *testing.T) {
	for _, s := range shortTexts() {
		want := ""
		if e := expected(s); e.instance != "" {
			want = e.prefix + "@." + name.Suffix(e.kind)
		}
		if got := name.Template(s); got != want {
			t.Errorf("Template(%q) = %q, want %q", s, got, want)
		}
	}
}

func TestInstance(t *testing.T) {
	for _, x := range [][3]string{
		{"getty@.service", "tty1", "getty@tty1.service"},
		{"a.b@.socket", "c.d", "a.b@c.d.socket"},
		{"a@.timer", ".", "a@..timer"},
		{"a@.timer", ".socket", "a@.socket.timer"},
		{"a@.timer", "b.service", "a@b.service.timer"},
		{"a@.target", `azAZ09:-_.\`, `a@azAZ09:-_.\.target`},
		{"a@.service", strings.Repeat("x", 50), "a@" + strings.Repeat("x", 50) + ".service"},
	} {
		if got, ok := name.Instance(x[0], x[1]); !ok || got != x[2] {
			t.Errorf("Instance(%q, %q) = %q, %v", x[0], x[1], got, ok)
		}
	}
	for _, x := range [][2]string{
		{"", "x"}, {"getty", "x"}, {"a@", "x"}, {"@.service", "x"}, {"a@.mount", "x"},
		{"a.service", "x"}, {"a@b.service", "x"}, {"a@@.service", "x"}, {"a@.service", ""},
		{"a b@.service", "x"}, {"a@.service", "x y"}, {"a@.service", "x@y"}, {"a@.service", "@"},
		{"a@.service", "x/y"}, {"a@.service", "é"}, {"a@.service", "\x00"},
		{"a@.service", strings.Repeat("x", 51)}, {"a@.service", strings.Repeat("x", 100000)},
		{strings.Repeat("a", 51) + "@.service", "x"},
	} {
		checkNoInstance(t, x[0], x[1])
	}
	if got, ok := name.Instance(strings.Repeat("a", 50)+"@.service", "x"); !ok || len(got) != 60 {
		t.Errorf("an instance of 60 bytes: %q, %v", got, ok)
	}
}

func checkNoInstance(t *testing.T, template, instance string) {
	t.Helper()
	if got, ok := name.Instance(template, instance); ok || got != "" {
		t.Errorf("Instance(%q, %q) = %q, %v, want none", template, instance, got, ok)
	}
}

func TestInstanceOfAllShortTexts(t *testing.T) {
	for _, s := range shortTexts() {
		if e := expected(s); !e.at || e.instance != "" {
			checkNoInstance(t, s, "x")
		}
		want := taken{"a", s, true, api.KTimer}
		if s == "" || expected("a@"+s+".timer") != want {
			checkNoInstance(t, "a@.timer", s)
			continue
		}
		got, ok := name.Instance("a@.timer", s)
		if !ok || expected(got) != want || name.Template(got) != "a@.timer" {
			t.Errorf("Instance(%q, %q) = %q, %v", "a@.timer", s, got, ok)
		}
	}
}

func TestChange(t *testing.T) {
	for _, x := range []struct {
		s    string
		kind int
		want string
	}{
		{"sshd.socket", api.KService, "sshd.service"},
		{"sshd.service", api.KService, "sshd.service"},
		{"sshd.service", api.KSocket, "sshd.socket"},
		{"sshd.service", api.KTimer, "sshd.timer"},
		{"sshd.service", api.KTarget, "sshd.target"},
		{"a.socket.service", api.KTimer, "a.socket.timer"},
		{"getty@.socket", api.KService, "getty@.service"},
		{"a.b@c.d.socket", api.KService, "a.b@c.d.service"},
		{strings.Repeat("a", 52) + ".socket", api.KService, strings.Repeat("a", 52) + ".service"},
		{strings.Repeat("a", 53) + ".socket", api.KService, ""},
		{strings.Repeat("a", 53) + ".socket", api.KTarget, strings.Repeat("a", 53) + ".target"},
		{strings.Repeat("a", 54) + ".timer", api.KSocket, ""},
		{strings.Repeat("a", 54) + ".timer", api.KTimer, strings.Repeat("a", 54) + ".timer"},
		{strings.Repeat("a", 54) + ".service", api.KTimer, ""},
		{"sshd.mount", api.KService, ""},
		{"sshd", api.KService, ""},
		{"sshd.", api.KService, ""},
		{".service", api.KTimer, ""},
		{"", api.KService, ""},
		{"a b.service", api.KTimer, ""},
	} {
		if got := name.Change(x.s, x.kind); got != x.want {
			t.Errorf("Change(%q, %d) = %q, want %q", x.s, x.kind, got, x.want)
		}
	}
	for _, kind := range noKinds {
		for _, s := range []string{"a.service", "a.service.service", "a@b.service", ""} {
			if got := name.Change(s, kind); got != "" {
				t.Errorf("Change(%q, %d) = %q", s, kind, got)
			}
		}
	}
}

func TestChangeOfAllShortTexts(t *testing.T) {
	for _, s := range shortTexts() {
		e := expected(s)
		for suffix, kind := range kinds {
			want := ""
			if e.kind != 0 {
				want = strings.TrimSuffix(s, name.Suffix(e.kind)) + suffix
			}
			if got := name.Change(s, kind); got != want {
				t.Errorf("Change(%q, %d) = %q, want %q", s, kind, got, want)
			}
		}
	}
}

// P1.3

func TestEscape(t *testing.T) {
	for _, x := range [][2]string{
		{"", ""},
		{"/", "-"},
		{"/home/user", "-home-user"},
		{"//", "--"},
		{"azAZ09:_.", "azAZ09:_."},
		{".", `\x2e`},
		{"..", `\x2e.`},
		{"/.a", "-.a"},
		{"a.", "a."},
		{"-", `\x2d`},
		{"a-b", `a\x2db`},
		{`\`, `\x5c`},
		{`\x2d`, `\x5cx2d`},
		{"@", `\x40`},
		{" \t\n", `\x20\x09\x0a`},
		{"\x00\x7f\x80\xff", `\x00\x7f\x80\xff`},
		{"é", `\xc3\xa9`},
		{"\xab\xcd\xef", `\xab\xcd\xef`},
	} {
		if got := name.Escape(x[0]); got != x[1] {
			t.Errorf("Escape(%q) = %q, want %q", x[0], got, x[1])
		}
		if got, ok := name.Unescape(x[1]); !ok || got != x[0] {
			t.Errorf("Unescape(%q) = %q, %v, want %q", x[1], got, ok, x[0])
		}
	}
}

func TestEscapeEachByte(t *testing.T) {
	const unchanged = "abcdefghijklmnopqrstuvwxyzABCDEFGHIJKLMNOPQRSTUVWXYZ0123456789:_"
	const digits = "0123456789abcdef"
	for c := range 256 {
		b := string([]byte{byte(c)})
		first := `\x` + digits[c/16:c/16+1] + digits[c%16:c%16+1]
		switch {
		case b == "/":
			first = "-"
		case strings.Contains(unchanged, b):
			first = b
		}
		later := first
		if b == "." {
			later = b
		}
		if got := name.Escape(b); got != first {
			t.Errorf("Escape(%q) = %q, want %q", b, got, first)
		}
		if got := name.Escape("x" + b); got != "x"+later {
			t.Errorf("Escape(%q) = %q, want %q", "x"+b, got, "x"+later)
		}
	}
}

func TestUnescapeWhatEscapeDoesNotWrite(t *testing.T) {
	for _, x := range [][2]string{
		{".", "."},
		{".a.", ".a."},
		{`\x61\x2f`, "a/"},
		{`\x5cx2d`, `\x2d`},
		{`\x2dx`, "-x"},
		{`\x2d2d`, "-2d"},
	} {
		if got, ok := name.Unescape(x[0]); !ok || got != x[1] {
			t.Errorf("Unescape(%q) = %q, %v, want %q", x[0], got, ok, x[1])
		}
	}
}

func TestUnescapeRefuses(t *testing.T) {
	for _, s := range []string{
		`\`, `\x`, `\x2`, `a\`, `a\x`, `a\x2`, `\\`, `\\x2d`, `\x\x2d`,
		`\xg0`, `\x0g`, `\xAB`, `\xaB`, `\xAb`, `\X2d`, `\2d`, `\y2d`, `\x-2`, `\x2-`, `\x 2`,
		`ab\x2`, `\x2da\x`, "a b", "a/b", "/", "a@b", "é", "\x00", "\xff", "a\n",
	} {
		if got, ok := name.Unescape(s); ok || got != "" {
			t.Errorf("Unescape(%q) = %q, %v, want none", s, got, ok)
		}
	}
}

func TestUnescapeEachByte(t *testing.T) {
	const unchanged = "abcdefghijklmnopqrstuvwxyzABCDEFGHIJKLMNOPQRSTUVWXYZ0123456789:_."
	for c := range 256 {
		b := string([]byte{byte(c)})
		want, may := "", false
		switch {
		case b == "-":
			want, may = "x/x", true
		case strings.Contains(unchanged, b):
			want, may = "x"+b+"x", true
		}
		if got, ok := name.Unescape("x" + b + "x"); got != want || ok != may {
			t.Errorf("Unescape(%q) = %q, %v", "x"+b+"x", got, ok)
		}
		digit := strings.Contains("0123456789abcdef", b)
		if _, ok := name.Unescape(`\x` + b + "0"); ok != digit {
			t.Errorf("%q as the first digit: %v", b, ok)
		}
		if _, ok := name.Unescape(`\x0` + b); ok != digit {
			t.Errorf("%q as the second digit: %v", b, ok)
		}
	}
}

func TestUnescapeReversesEscape(t *testing.T) {
	random := rand.New(rand.NewSource(1))
	texts := shortTexts()
	for range 5000 {
		text := make([]byte, random.Intn(40))
		random.Read(text)
		texts = append(texts, string(text))
	}
	for _, text := range texts {
		s := name.Escape(text)
		if got, ok := name.Unescape(s); !ok || got != text {
			t.Errorf("Unescape(%q) = %q, %v, want %q", s, got, ok, text)
		}
		if s != "" && len(s) <= 52 && !name.May(s+".service") {
			t.Errorf("an escaped text is no prefix: %q", s)
		}
	}
}

// The general rules

// P0.1, P0.2, P0.6: every call ends, and what has no result answers zero values.
func TestUnusualArguments(t *testing.T) {
	long := strings.Repeat("a", 1<<20)
	for _, s := range []string{
		"", long, long + ".service", strings.Repeat("@", 1<<20), strings.Repeat(".", 1<<20),
		strings.Repeat(`\`, 1<<20), strings.Repeat("\xff", 1<<20), strings.Repeat("\x00", 60),
	} {
		checkSyntax(t, s, taken{})
		if got := name.Template(s); got != "" {
			t.Errorf("Template of %d bytes: %q", len(s), got)
		}
		checkNoInstance(t, s, s)
		checkNoInstance(t, "a@.service", s)
		for _, kind := range noKinds {
			if got := name.Change(s, kind); got != "" {
				t.Errorf("Change of %d bytes: %q", len(s), got)
			}
		}
		if got, ok := name.Unescape(name.Escape(s)); !ok || got != s {
			t.Errorf("Unescape of %d escaped bytes: %v", len(s), ok)
		}
		if got, ok := name.Unescape(s); !ok && got != "" {
			t.Errorf("Unescape of %d bytes: a result beside false", len(s))
		}
	}
}

// P0.5: a call answers the same whatever was called before it or is called beside it.
func TestCallsKeepNothing(t *testing.T) {
	var group sync.WaitGroup
	texts := shortTexts()
	for i := range 4 {
		group.Go(func() {
			for k := range texts {
				s := texts[(k*7+i)%len(texts)]
				if name.Kind(s) != expected(s).kind || name.May(s) != (expected(s).kind != 0) {
					t.Errorf("Kind(%q) = %d", s, name.Kind(s))
				}
				if got, ok := name.Unescape(name.Escape(s)); !ok || got != s {
					t.Errorf("Unescape(Escape(%q)) = %q, %v", s, got, ok)
				}
			}
		})
	}
	group.Wait()
}

// P0.7: bytes are compared, not letters: these differ from names in case alone,
// or look the same.
func TestStringsAreComparedByBytes(t *testing.T) {
	for _, s := range []string{"a.SERVICE", "a.\u017fervice", "a.ti\u2098er", "a.timer\u0301", "a.\uff54imer"} {
		checkSyntax(t, s, taken{})
	}
	checkSyntax(t, "A.service", taken{"A", "", false, api.KService})
}

var noKinds = []int{0, -1, 5, 6, math.MinInt, math.MaxInt, 1 << 32, 1<<32 + 1, api.Forever}

// shortTexts returns all texts of up to five of the pieces that matter to names.
func shortTexts() []string {
	pieces := []string{"a", "@", ".", "-", `\`, "x2e", "/", "service", "timer"}
	texts := []string{""}
	last := texts
	for range 5 {
		var longer []string
		for _, s := range last {
			for _, piece := range pieces {
				longer = append(longer, s+piece)
			}
		}
		texts = append(texts, longer...)
		last = longer
	}
	return texts
}
