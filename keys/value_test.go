package keys_test

import (
	"math"
	"math/rand"
	"regexp"
	"slices"
	"strconv"
	"strings"
	"sync"
	"testing"

	"matins/api"
	"matins/cal"
	"matins/keys"
	"matins/span"
	"matins/words"
)

// The forms of the chapter, told independently of the package.
var (
	boolean    = regexp.MustCompile(`\A(yes|true|1|no|false|0)\z`)
	number     = regexp.MustCompile(`\A([0-5]?[0-9]{1,4}|6[0-4][0-9]{3}|65[0-4][0-9]{2}|655[0-2][0-9]|6553[0-5])\z`)
	unitName   = regexp.MustCompile(`\A[a-zA-Z0-9:_.\\-]+(@[a-zA-Z0-9:_.\\-]+)?\.(service|socket|timer|target)\z`)
	assignment = regexp.MustCompile(`\A[a-zA-Z_][a-zA-Z0-9_]{0,59}=(?s:.*)\z`)
	element    = regexp.MustCompile(`[^ ]+`)
)

func isUnitName(s string) bool { return len(s) <= 60 && unitName.MatchString(s) }

// consistsOf reports whether all elements of s are such, and there is one.
func consistsOf(s string, is func(string) bool) bool {
	l := element.FindAllString(s, -1)
	isNot := func(s string) bool { return !is(s) }
	return len(l) > 0 && !slices.ContainsFunc(l, isNot)
}

// takes reports whether a nonempty value is to be taken.
func takes(k api.Key, value string) bool {
	switch k.Form {
	case api.VText:
		return true
	case api.VBool:
		return boolean.MatchString(value)
	case api.VInt:
		return number.MatchString(value)
	case api.VInts:
		return consistsOf(value, number.MatchString)
	case api.VSpan:
		_, ok := span.Parse(value)
		return ok
	case api.VCal:
		_, ok := cal.Parse(value)
		return ok
	case api.VName:
		return isUnitName(value)
	case api.VNames:
		return consistsOf(value, isUnitName)
	case api.VExec:
		if value[0] == '-' {
			value = value[1:]
		}
		l, err := words.Split(value)
		return err == api.OK && len(l) >= 1 && l[0] != ""
	case api.VEnv:
		l, err := words.Split(value)
		isNot := func(s string) bool { return !assignment.MatchString(s) }
		return err == api.OK && len(l) >= 1 && !slices.ContainsFunc(l, isNot)
	case api.VWord:
		return slices.Contains(k.Words, value)
	}
	panic("no form")
}

// expectedValue returns what Value(k, value) is to return.
func expectedValue(k api.Key, value string) api.Errno {
	switch {
	case k.Form < 1 || k.Form > 11:
		return api.ErrKind
	case value == "" && (k.List || k.Form == api.VText):
		return api.OK
	case value == "" || !takes(k, value):
		return api.ErrValue
	}
	return api.OK
}

func checkValue(t *testing.T, k api.Key, want api.Errno, values ...string) {
	t.Helper()
	for _, value := range values {
		if got := keys.Value(k, value); got != want {
			t.Errorf("Value of form %d, list %v, words %.100q: %.100q = %d, want %d", k.Form, k.List, k.Words[:min(len(k.Words), 9)], value, got, want)
		}
	}
}

// checkTaken checks values that a form takes, with and without List.
func checkTaken(t *testing.T, form int, values ...string) {
	t.Helper()
	checkValue(t, api.Key{Form: form}, api.OK, values...)
	checkValue(t, api.Key{Form: form, List: true}, api.OK, values...)
}

// checkNotTaken checks nonempty values that a form does not take, with and
// without List.
func checkNotTaken(t *testing.T, form int, values ...string) {
	t.Helper()
	checkValue(t, api.Key{Form: form}, api.ErrValue, values...)
	checkValue(t, api.Key{Form: form, List: true}, api.ErrValue, values...)
}

func checkValueByForm(t *testing.T, k api.Key, values ...string) {
	t.Helper()
	for _, value := range values {
		checkValue(t, k, expectedValue(k, value), value)
	}
}

// textsOf returns all texts of up to the given number of pieces.
func textsOf(most int, pieces ...string) []string {
	texts := []string{""}
	last := texts
	for range most {
		var longer []string
		for _, s := range last {
			for _, p := range pieces {
				longer = append(longer, s+p)
			}
		}
		texts = append(texts, longer...)
		last = longer
	}
	return texts
}

// P8.2

func TestUnknownForms(t *testing.T) {
	for _, form := range []int{0, -1, 12, 13, 16, 64, 257, 1 << 40, math.MaxInt, math.MinInt} {
		for _, list := range []bool{false, true} {
			k := api.Key{Section: "Unit", Name: "Description", Form: form, List: list, Kinds: 30, Words: []string{"x", ""}}
			checkValue(t, k, api.ErrKind, "", "x", "yes", "1", "a.service", " ", "\x00")
		}
	}
}

func TestEmptyValues(t *testing.T) {
	for form := 1; form <= 11; form++ {
		want := api.ErrValue
		if form == api.VText {
			want = api.OK
		}
		for _, l := range [][]string{nil, {""}, {"", "x"}} {
			checkValue(t, api.Key{Form: form, Words: l}, want, "")
			checkValue(t, api.Key{Form: form, Words: l, List: true}, api.OK, "")
		}
	}
}

// A value of blanks is not empty.
func TestBlankValues(t *testing.T) {
	blank := []string{" ", "  ", "\t", " \t ", strings.Repeat(" ", 400)}
	checkTaken(t, api.VText, blank...)
	for form := 2; form <= 11; form++ {
		checkNotTaken(t, form, blank...)
	}
}

func TestTexts(t *testing.T) {
	checkTaken(t, api.VText, "x", "two words", "\x00", "\n", "\x7f", "\xff", `\`, `"`, "%", strings.Repeat("x", 401), strings.Repeat("x", 20001))
}

func TestBools(t *testing.T) {
	checkTaken(t, api.VBool, "yes", "true", "1", "no", "false", "0")
	checkNotTaken(t, api.VBool, "Yes", "YES", "True", "No", "FALSE", "on", "off", "y", "n", "t", "f", "ye", "yess", " yes", "yes ", "yes no", "2", "-1", "00", "01", "10", "0\n", "\u0661")
	l := textsOf(3, "y", "e", "s", "n", "o", "0", "1", " ")
	checkValueByForm(t, api.Key{Form: api.VBool}, l...)
}

func TestNumbers(t *testing.T) {
	checkTaken(t, api.VInt, "0", "1", "9", "10", "80", "00000", "00001", "01", "9999", "10000", "59999", "60000", "64999", "65000", "65499", "65529", "65530", "65535")
	checkNotTaken(t, api.VInt, "65536", "65540", "65600", "66000", "70000", "99999", "000000", "000001", "100000", "165535", "065535", "+1", "-1", "-0", " 1", "1 ", "1 2", "1\t", "1\n", "\n1", "1.0", "1e3", "0x1", "1_000", "1,000", "a", "1a", "a1", "\u0661", "٣", "１", "1\x00", "18446744073709551617", strings.Repeat("0", 400), strings.Repeat("9", 400))
	for n := range 100100 {
		checkValueByForm(t, api.Key{Form: api.VInt}, strconv.Itoa(n))
	}
	for size := 1; size <= 7; size++ {
		for n := 0; n < 70000; n += 101 {
			s := strconv.Itoa(n)
			s = strings.Repeat("0", max(0, size-len(s))) + s
			checkValueByForm(t, api.Key{Form: api.VInt}, s)
		}
	}
}

func TestLists(t *testing.T) {
	checkTaken(t, api.VInts, "1", "0", "65535", "1 2", "1  2", "1 2 3", " 1", "1 ", "  1   2  ", "1 1 1", "00001 65535 0")
	checkNotTaken(t, api.VInts, "65536", "1 65536", "65536 1", "1 x", "x 1", "1 x 2", "1,2", "1, 2", "1\t2", "\t1", "1\t", "1\n2", "1 2\n", "1;2", "1-2", "1 -2", "1 +2", "1\u00a02", "000001", "1 000001 2", "''", "\"1\" 2")
	many := strings.Repeat("1 ", 100)
	checkTaken(t, api.VInts, many, many+"65535")
	checkNotTaken(t, api.VInts, many+"65536")
	l := textsOf(5, "1", "65535", "6", " ", "\t")
	checkValueByForm(t, api.Key{Form: api.VInts}, l...)
	checkValueByForm(t, api.Key{Form: api.VInts, List: true}, l...)
}

func TestSpans(t *testing.T) {
	checkTaken(t, api.VSpan, "0", "5", "5min", "1h 30min", " 5s ", "1 2 3", "infinity", "6311433600")
	checkNotTaken(t, api.VSpan, "5x", "min", "-1", "5 min x", "1\t2", "infinity ", "Infinity", "1.5h", "6311433601", "12345678901")
	checkValueByForm(t, api.Key{Form: api.VSpan}, textsOf(4, "1", "9999999999", "h", "min", " ", "infinity", "x")...)
}

func TestCalendars(t *testing.T) {
	checkTaken(t, api.VCal, "daily", "weekly", "Mon", "Mon..Fri 8:30", "*-*-*", "2026-11-19 09:00:00", "*:0/15", "*-*-31")
	checkNotTaken(t, api.VCal, "never", "Daily", " daily", "daily ", "Mon  8:30", "mon", "24:00", "1999-1-1", "*", "0", strings.Repeat("Mon,", 100)+"Mon")
	checkValueByForm(t, api.Key{Form: api.VCal}, textsOf(4, "Mon", "Fri", "..", ",", " ", "*-*-*", "8:30", "daily")...)
}

func TestNames(t *testing.T) {
	longest := strings.Repeat("a", 52) + ".service"
	checkTaken(t, api.VName, "a.service", "a.socket", "a.timer", "a.target", "a@b.service", "a@b.c.target", "a.b.service", "a@.service.service", "..service", `a\x20:_-9.service`, longest)
	checkNotTaken(t, api.VName, "a@.service", "a@.socket", "a@.timer", "a@.target", "a", "a.", ".service", "@.service", "@b.service", "a@b@c.service", "a.mount", "a.Service", "service", " a.service", "a.service ", "a.service b.service", "a.service\n", "a/b.service", "%n", "a%i.service", "é.service", "a\x00.service", "-", "a"+longest)
	l := textsOf(4, "a", "@", ".", ".service", ".timer", " ", `\`)
	checkValueByForm(t, api.Key{Form: api.VName}, l...)
	checkValueByForm(t, api.Key{Form: api.VName, List: true}, l...)
}

func TestListsOfNames(t *testing.T) {
	longest := strings.Repeat("a", 53) + ".target"
	checkTaken(t, api.VNames, "a.service", "a.service b.timer", "a.service  b.timer", " a.service", "a.service ", "  a@b.service   b.target  ", "a.service a.service", longest+" "+longest)
	checkNotTaken(t, api.VNames, "a@.service", "a", "a.service a@.service", "a@.service a.service", "a.service a@.timer b.service", "a.service b", "a b.service", "a.service,b.service", "a.service, b.service", "a.service\tb.service", "\ta.service", "a.service\t", "a.service\nb.service", "a.service;b.service", "'a.service'", "\"a.service b.service\"", "a.service\u00a0b.service", longest+" b"+longest)
	many := strings.Repeat("a.service ", 100)
	checkTaken(t, api.VNames, many, many+"b.timer")
	checkNotTaken(t, api.VNames, many+"b@.timer")
	l := textsOf(5, "a", "@", ".service", ".timer", " ", "\t")
	checkValueByForm(t, api.Key{Form: api.VNames}, l...)
	checkValueByForm(t, api.Key{Form: api.VNames, List: true}, l...)
}

func TestCommands(t *testing.T) {
	full := strings.Repeat("a ", 32)
	checkTaken(t, api.VExec, "/bin/true", "a b", "a 'b c' \"d\"", "-a", "-/bin/false", "--", "--a", "- a", "-\ta", " a", "\ta", "a ", " -", "a ''", "''a", `\s`, `-\s`, "' '", "$A ${B}", "%n", "\xff", "é", full, "-"+full, strings.Repeat("x", 1000))
	checkNotTaken(t, api.VExec, "-", "- ", "-\t", "- \t ", "''", `""`, "'' a", `"" a`, " ''", "-''", "-'' a", "- '' a", "'a", `"a`, `a "b`, `\`, `a \`, `\q`, `a \x00`, `\x0`, `\xFF`, "a\nb", "a\x00", "a\x7f", "\ra", full+"b", "-"+full+"b", "'' "+full)
	l := textsOf(6, "-", " ", "''", "a", `"`, `\`)
	checkValueByForm(t, api.Key{Form: api.VExec}, l...)
	checkValueByForm(t, api.Key{Form: api.VExec, List: true}, l...)
}

func TestEnvironments(t *testing.T) {
	longest := strings.Repeat("Va_9", 15)
	full := strings.Repeat("A=1 ", 32)
	checkTaken(t, api.VEnv, "A=1", "A=", "a=b", "_=1", "_9=1", "A9z_=x", "A==", "A=b=c", "A=1 B=2", "A=1\tB=2", "  A=1  ", "A=1 A=2", "A='x y'", `"A=b c"`, "'A=b c' B=", `A\x3d1`, `A=\n`, "A='\t'", "'A'=1", "A=%n", "A=$B", "A=é", "A=\xff", longest+"=1", longest+"="+longest, full)
	checkNotTaken(t, api.VEnv, "A", "=", "=1", "9=1", "9A=1", "A-B=1", "A.B=1", "A B=1", "A=1 B", "A=1 2", "B A=1", "A=1 =2", "A=1 9=2", "A=1 'B C=2'", "' A=1'", "'A =1'", "é=1", "\xff=1", "A\xff=1", "''", "A=1 ''", "'' A=1", "A=1 '", `A=1 "`, `A=\`, `A=\q`, "A=1\n", "A=\x00", "A=\x7f", "$A=1", "${A}=1", "-A=1", "- A=1", longest+"a=1", "A=1 "+longest+"b=2", full+"B=2")
	l := textsOf(5, "A", "9", "=", " ", "'", "_", "-")
	checkValueByForm(t, api.Key{Form: api.VEnv}, l...)
	checkValueByForm(t, api.Key{Form: api.VEnv, List: true}, l...)
}

func TestWords(t *testing.T) {
	for _, k := range []api.Key{{Form: api.VWord, Words: []string{"simple", "oneshot", "notify"}}, {Form: api.VWord, Words: []string{"no", "on-success", "always"}, List: true}} {
		for _, word := range k.Words {
			checkValue(t, k, api.OK, word)
			checkValue(t, k, api.ErrValue, word[1:], word[:len(word)-1], word+" ", " "+word, word+word, strings.ToUpper(word), word+"\n", word+" "+k.Words[0])
		}
		checkValue(t, k, api.ErrValue, "x", " ", "1", strings.Join(k.Words, " "))
	}
	for _, list := range []bool{false, true} {
		checkValue(t, api.Key{Form: api.VWord, List: list}, api.ErrValue, "x", "simple", "no")
		k := api.Key{Form: api.VWord, List: list, Words: []string{"", "x y", "z\n", "z\n", "\xff"}}
		checkValue(t, k, api.OK, "x y", "z\n", "\xff")
		checkValue(t, k, api.ErrValue, "x", "y", "z", "\xfe", "\ufffd")
	}
}

// Only the words of a key of form VWord count.
func TestWordsOfOtherForms(t *testing.T) {
	for form := 2; form <= 11; form++ {
		if form != api.VWord {
			checkValue(t, api.Key{Form: form, Words: []string{"!", "'"}}, api.ErrValue, "'")
		}
	}
	checkValue(t, api.Key{Form: api.VBool, Words: []string{"x"}}, api.OK, "yes")
}

// What else a key says does not count.
func TestOtherFields(t *testing.T) {
	values := []string{"", "x", "yes", "1", "1 2", "5min", "daily", "a.service", "a.service b.service", "A=1", "'"}
	for form := 1; form <= 11; form++ {
		for _, k := range []api.Key{{Section: "Unit", Name: "Description"}, {Section: "Service", Name: "Type", Kinds: 2}, {Name: "x", Kinds: -1}, {Section: "\xff", Kinds: math.MinInt}} {
			k.Form = form
			k.Words = []string{"x"}
			checkValueByForm(t, k, values...)
			k.List = true
			checkValueByForm(t, k, values...)
		}
	}
}

func TestEveryByte(t *testing.T) {
	for form := 1; form <= 11; form++ {
		k := api.Key{Form: form, Words: []string{"a", " ", "é"}}
		for n := range 256 {
			c := string([]byte{byte(n)})
			for _, s := range []string{"a", "1", "a.service", "A=b", "yes", "Mon", "a b"} {
				checkValueByForm(t, k, c, c+s, s+c, s+c+s, s+" "+c)
			}
		}
	}
}

func TestRandomValues(t *testing.T) {
	random := rand.New(rand.NewSource(8))
	pieces := []string{"a", "1", "A=", "_", " ", " ", "\t", "-", "'", `"`, `\`, `\s`, "@", ".service", ".timer", "65535", "65536", "h", "min", "infinity", "daily", "Mon", "*-*-*", "8:30", "yes", "\x00", "\xff", "word"}
	for range 100000 {
		var value strings.Builder
		for range random.Intn(8) {
			value.WriteString(pieces[random.Intn(len(pieces))])
		}
		k := api.Key{Form: random.Intn(14) - 1, List: random.Intn(2) == 0, Words: []string{"word", "yes", "wordword"}}
		checkValueByForm(t, k, value.String())
	}
}

// General rules

// P0.1: every call ends, also with long arguments.
func TestLongValues(t *testing.T) {
	const length = 1 << 18
	many := slices.Repeat([]string{"x"}, length)
	for _, piece := range []string{"a", "1", " ", "1 ", "a.service ", "A=1 ", "'", `\`, "-", "\x00", "\xff", "@", "h", "="} {
		value := strings.Repeat(piece, length)
		for form := 0; form <= 12; form++ {
			checkValueByForm(t, api.Key{Form: form, Words: many}, value)
		}
	}
}

// P0.3: Value keeps and changes nothing of its argument, not even behind its end.
func TestKeysAreLeft(t *testing.T) {
	l := []string{"x", "y", "behind"}
	for form := range 13 {
		keys.Value(api.Key{Form: form, Words: l[:2]}, "y")
	}
	if !slices.Equal(l, []string{"x", "y", "behind"}) {
		t.Errorf("the words are now %q", l)
	}
	checkValue(t, api.Key{Form: api.VWord, Words: l[:2]}, api.ErrValue, "behind")
	l[1] = "z"
	checkValue(t, api.Key{Form: api.VWord, Words: l[:2]}, api.OK, "z")
	checkValue(t, api.Key{Form: api.VWord, Words: l[:2]}, api.ErrValue, "y")
}

// P0.4: nil and an empty list are the same.
func TestNilAndEmptyWords(t *testing.T) {
	for form := 0; form <= 12; form++ {
		for _, value := range []string{"", "x", "yes", "1", "a.service"} {
			checkValueByForm(t, api.Key{Form: form}, value)
			checkValueByForm(t, api.Key{Form: form, Words: []string{}}, value)
		}
	}
}

// P0.5: a call answers the same whatever was called before it or is called beside it.
func TestCallsKeepNothing(t *testing.T) {
	var group sync.WaitGroup
	values := textsOf(4, "a", "1", " ", ".service", "=", "-", "yes")
	for i := range 4 {
		group.Go(func() {
			for n := range values {
				value := values[(n*7+i*100)%len(values)]
				checkValueByForm(t, api.Key{Form: n%13 + i%2, List: n%2 == 0}, value)
				checkByForm(t, i+1, api.Line{Section: "Service", Key: "ExecStart", Value: value, At: n}, api.Line{Section: "Unit", Key: "Wants", Value: value, At: n + 1})
			}
			checkAll(t)
		})
	}
	group.Wait()
}
