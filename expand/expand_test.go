package expand_test

import (
	"math/rand"
	"regexp"
	"slices"
	"strings"
	"sync"
	"testing"

	"matins/api"
	"matins/expand"
	"matins/name"
)

// The forms of the chapter, told independently of the package.
var (
	specifier = regexp.MustCompile(`(?s)%.?`)
	whole     = regexp.MustCompile(`^\$([a-zA-Z_][a-zA-Z0-9_]{0,59})$`)
	reference = regexp.MustCompile(`\$\$|\$\{[a-zA-Z_][a-zA-Z0-9_]{0,59}\}`)
	valueWord = regexp.MustCompile(`[^ \t]+`)
)

// specifiers returns what each specifier stands for in a unit.
func specifiers(unit string) map[string]string {
	prefix, instance, _ := name.Parts(unit)
	text, ok := name.Unescape(instance)
	if !ok {
		text = instance
	}
	stem := unit
	for _, suffix := range []string{".service", ".socket", ".timer", ".target"} {
		stem = strings.TrimSuffix(stem, suffix)
		if stem != unit {
			break
		}
	}
	return map[string]string{"%%": "%", "%n": unit, "%N": stem, "%p": prefix, "%i": instance, "%I": text}
}

// expectedSpec returns what Spec(s, unit) is to return.
func expectedSpec(s, unit string) (string, api.Errno) {
	if !name.May(unit) {
		return "", api.ErrName
	}
	values := specifiers(unit)
	err := api.OK
	result := specifier.ReplaceAllStringFunc(s, func(text string) string {
		value, ok := values[text]
		if !ok {
			err = api.ErrSpec
		}
		return value
	})
	if err != api.OK {
		return "", err
	}
	return result, api.OK
}

// valueOf returns the value of a variable.
func valueOf(variable string, env []api.Pair) string {
	for _, pair := range slices.Backward(env) {
		if pair.Name == variable {
			return pair.Value
		}
	}
	return ""
}

// expectedVars returns what Vars(l, env) is to return.
func expectedVars(l []string, env []api.Pair) []string {
	var result []string
	for _, word := range l {
		if m := whole.FindStringSubmatch(word); m != nil {
			result = append(result, valueWord.FindAllString(valueOf(m[1], env), -1)...)
			continue
		}
		result = append(result, reference.ReplaceAllStringFunc(word, func(text string) string {
			if text == "$$" {
				return "$"
			}
			return valueOf(text[2:len(text)-1], env)
		}))
	}
	return result
}

func checkSpec(t *testing.T, s, unit, want string) {
	t.Helper()
	if got, err := expand.Spec(s, unit); got != want || err != api.OK {
		t.Errorf("Spec(%.100q, %.100q) = %.300q, %d, want %.300q", s, unit, got, err, want)
	}
}

func checkSpecError(t *testing.T, unit string, want api.Errno, texts ...string) {
	t.Helper()
	for _, s := range texts {
		if got, err := expand.Spec(s, unit); got != "" || err != want {
			t.Errorf("Spec(%.100q, %.100q) = %.300q, %d, want error %d", s, unit, got, err, want)
		}
	}
}

func checkSpecByForm(t *testing.T, s, unit string) {
	t.Helper()
	if want, err := expectedSpec(s, unit); err != api.OK {
		checkSpecError(t, unit, err, s)
	} else {
		checkSpec(t, s, unit, want)
	}
}

func checkVars(t *testing.T, l []string, env []api.Pair, want ...string) {
	t.Helper()
	if got := expand.Vars(l, env); !slices.Equal(got, want) {
		t.Errorf("Vars(%.300q, %.300q) = %.300q, want %.300q", l, env, got, want)
	}
}

// checkWord checks what one word is replaced by.
func checkWord(t *testing.T, word string, env []api.Pair, want ...string) {
	t.Helper()
	checkVars(t, []string{word}, env, want...)
}

func checkVarsByForm(t *testing.T, l []string, env []api.Pair) {
	t.Helper()
	checkVars(t, l, env, expectedVars(l, env)...)
}

// P6.1

func TestEachSpecifier(t *testing.T) {
	for _, x := range []struct{ unit, n, stem, p, i, text string }{
		{"sshd.service", "sshd.service", "sshd", "sshd", "", ""},
		{"sshd.socket", "sshd.socket", "sshd", "sshd", "", ""},
		{"a.b.c.timer", "a.b.c.timer", "a.b.c", "a.b.c", "", ""},
		{"a.service.target", "a.service.target", "a.service", "a.service", "", ""},
		{"a.service.service", "a.service.service", "a.service", "a.service", "", ""},
		{"..service", "..service", ".", ".", "", ""},
		{"a-b\\x2d.service", "a-b\\x2d.service", "a-b\\x2d", "a-b\\x2d", "", ""},
		{"getty@.service", "getty@.service", "getty@", "getty", "", ""},
		{"getty@tty1.service", "getty@tty1.service", "getty@tty1", "getty", "tty1", "tty1"},
		{"a.b@c.d.socket", "a.b@c.d.socket", "a.b@c.d", "a.b", "c.d", "c.d"},
		{"a@..timer", "a@..timer", "a@.", "a", ".", "."},
		{"m-n@srv-my\\x20data.target", "m-n@srv-my\\x20data.target", "m-n@srv-my\\x20data", "m-n", "srv-my\\x20data", "srv/my data"},
		{"a@-.service", "a@-.service", "a@-", "a", "-", "/"},
		{"a@\\x25n\\x00\\xff.service", "a@\\x25n\\x00\\xff.service", "a@\\x25n\\x00\\xff", "a", "\\x25n\\x00\\xff", "%n\x00\xff"},
	} {
		checkSpec(t, "%n", x.unit, x.n)
		checkSpec(t, "%N", x.unit, x.stem)
		checkSpec(t, "%p", x.unit, x.p)
		checkSpec(t, "%i", x.unit, x.i)
		checkSpec(t, "%I", x.unit, x.text)
		checkSpec(t, "%%", x.unit, "%")
		checkSpec(t, "%%%n|%N|%p|%i|%I|", x.unit, "%"+x.n+"|"+x.stem+"|"+x.p+"|"+x.i+"|"+x.text+"|")
	}
}

// What Unescape refuses stands as it is, also the parts that it would replace.
func TestInstanceThatIsNotEscaped(t *testing.T) {
	for _, instance := range []string{`\`, `a-\`, `\x2`, `\xAB`, `a-b\y`, `\x2d\x`, `-\-`, `\x2D`, `\\x2d`} {
		checkSpec(t, "%I", "a@"+instance+".service", instance)
		checkSpec(t, "<%I%i>", "a@"+instance+".service", "<"+instance+instance+">")
	}
}

func TestSpecLeavesAllElse(t *testing.T) {
	for _, s := range []string{"", "a", "n", "N p i I", "/bin/echo $n ${p} $$ \\n \\x25 'a' \"b\"", "\x00\x01\t\r\n\x7f", "\xff\xfe\x80", "é\u2003％n", "{n}", "&n", "a.service"} {
		checkSpec(t, s, "x@y.service", s)
	}
	for n := range 256 {
		c := string([]byte{byte(n)})
		if c != "%" {
			checkSpec(t, c, "x@y.service", c)
			checkSpec(t, "a"+c+"n%p"+c+"n", "x@y.service", "a"+c+"nx"+c+"n")
		}
	}
}

func TestSpecFromLeftToRightOnce(t *testing.T) {
	checkSpec(t, "%%n", "a.service", "%n")
	checkSpec(t, "%%%%n", "a.service", "%%n")
	checkSpec(t, "%%%n", "a.service", "%a.service")
	checkSpec(t, "%pn%nn", "a.service", "ana.servicen")
	checkSpec(t, "%p%p%i%i", "a@b.service", "aabb")
	checkSpec(t, "%%%%%%", "a.service", "%%%")
	checkSpec(t, "%I%I", `a@\x25p.service`, "%p%p")
}

func TestSpecRefusesOtherBytes(t *testing.T) {
	for n := range 256 {
		c := string([]byte{byte(n)})
		for _, s := range []string{"%" + c, "a%" + c + "b", "%n%" + c, "%" + c + "%n", "%%%" + c} {
			checkSpecByForm(t, s, "x@y-z.service")
		}
		if !strings.Contains("%nNpiI", c) {
			checkSpecError(t, "x@y.service", api.ErrSpec, "%"+c, "%n%"+c+"%n", "a %"+c+" b")
		}
	}
	checkSpecError(t, "x@y.service", api.ErrSpec, "%é", "% n", "%{n}", "%\u212a", "%P", "%1", "%-n", "%$")
}

func TestSpecRefusesAnEnd(t *testing.T) {
	checkSpecError(t, "x@y.service", api.ErrSpec, "%", "a%", "%n%", "%%%", "%%a%", "%n %p%")
}

func TestSpecRefusesOtherUnits(t *testing.T) {
	for _, unit := range []string{"", "a", "a.", ".service", "@.service", "a.mount", "a@b", "a@b@c.service", "a b.service", "a.service ", "%n", "a/b.service", "é.service", strings.Repeat("a", 53) + ".service"} {
		checkSpecError(t, unit, api.ErrName, "", "a", "%n", "%%", "%N%p%i%I")
		// The name comes first.
		checkSpecError(t, unit, api.ErrName, "%", "%q", "%n%", "a%-b")
	}
	long := strings.Repeat("a", 52)
	checkSpec(t, "%N", long+".service", long)
}

func TestSpecOfAllShortTexts(t *testing.T) {
	units := []string{"a.service", "a@.timer", "b.c@d-e.socket", `p@\x25n\x.target`, "none"}
	for _, s := range textsOf(5, "%", "n", "N", "p", "i", "I", "q", "\xff") {
		for _, unit := range units {
			checkSpecByForm(t, s, unit)
		}
	}
}

// P6.2

var env = []api.Pair{
	{Name: "A", Value: "1"},
	{Name: "B", Value: " x \ty\t"},
	{Name: "A", Value: "2 3"},
	{Name: "EMPTY"},
	{Name: "BLANK", Value: " \t \t\t "},
	{Name: "DOLLAR", Value: "$A ${A} $$"},
	{Name: "A_", Value: "under"},
	{Name: "", Value: "nameless"},
	{Name: "9", Value: "nine"},
	{Name: "A B", Value: "two"},
}

func TestWordThatIsAVariable(t *testing.T) {
	checkWord(t, "$A", env, "2", "3")
	checkWord(t, "$B", env, "x", "y")
	checkWord(t, "$A_", env, "under")
	checkWord(t, "$DOLLAR", env, "$A", "${A}", "$$")
	checkVars(t, []string{"$A", "$A", "-", "$B"}, env, "2", "3", "2", "3", "-", "x", "y")
}

func TestValueWithoutWords(t *testing.T) {
	for _, word := range []string{"$EMPTY", "$BLANK", "$NONE", "$a", "$_A", "$AA"} {
		checkWord(t, word, env)
		checkVars(t, []string{"a", word, word, "b"}, env, "a", "b")
		checkVars(t, []string{word}, nil)
	}
}

func TestSplittingOfValues(t *testing.T) {
	for _, value := range []string{"a bc", "a\tbc", " a bc", "a bc ", "\ta\tbc\t", "a  bc", "a \t bc", "a\t\tbc", "  \t a \t\t bc \t "} {
		checkWord(t, "$V", []api.Pair{{Name: "V", Value: value}}, "a", "bc")
	}
	for _, value := range []string{"a", " a", "a ", "\ta\t", "  a\t "} {
		checkWord(t, "$V", []api.Pair{{Name: "V", Value: value}}, "a")
	}
	checkWord(t, "$V", []api.Pair{{Name: "V", Value: `'a b' "c" \s`}}, "'a", "b'", `"c"`, `\s`)
	for n := range 256 {
		c := string([]byte{byte(n)})
		pairs := []api.Pair{{Name: "V", Value: "a" + c + "b"}, {Name: "W", Value: c}}
		if c == " " || c == "\t" {
			checkVars(t, []string{"$V", "$W"}, pairs, "a", "b")
		} else {
			checkVars(t, []string{"$V", "$W"}, pairs, "a"+c+"b", c)
		}
	}
	checkWord(t, "$V", []api.Pair{{Name: "V", Value: "\u00a0a\u2003\u0085\xa0 \x85"}}, "\u00a0a\u2003\u0085\xa0", "\x85")
}

func TestReferencesInsideWords(t *testing.T) {
	checkWord(t, "${A}", env, "2 3")
	checkWord(t, "a${B}b", env, "a x \ty\tb")
	checkWord(t, "${A}${A_}", env, "2 3under")
	checkWord(t, "-${A}-${B}-", env, "-2 3- x \ty\t-")
	checkWord(t, "${DOLLAR}", env, "$A ${A} $$")
	checkWord(t, "x${DOLLAR}x", env, "x$A ${A} $$x")
	checkWord(t, "${BLANK}", env, " \t \t\t ")
	checkWord(t, "a ${A}\tb", env, "a 2 3\tb")
	checkWord(t, "\xff${A}\xfe\x00", env, "\xff2 3\xfe\x00")
}

// A word remains one, though nothing is left of it.
func TestEmptyWords(t *testing.T) {
	checkWord(t, "", env, "")
	checkWord(t, "${EMPTY}", env, "")
	checkWord(t, "${NONE}", env, "")
	checkWord(t, "${NONE}${EMPTY}", env, "")
	checkVars(t, []string{"", "${NONE}", "$NONE", ""}, env, "", "", "")
	checkVars(t, []string{"${A}", "x${A}"}, nil, "", "x")
}

func TestDoubledDollars(t *testing.T) {
	checkWord(t, "$$", env, "$")
	checkWord(t, "$$$", env, "$$")
	checkWord(t, "$$$$", env, "$$")
	checkWord(t, "$$A", env, "$A")
	checkWord(t, "$$$A", env, "$$A")
	checkWord(t, "$${A}", env, "${A}")
	checkWord(t, "$$${A}", env, "$2 3")
	checkWord(t, "$$$${A}", env, "$${A}")
	checkWord(t, "${A}$$${A}$$", env, "2 3$2 3$")
	checkWord(t, "a$$b", env, "a$b")
}

func TestAllOtherBytesRemain(t *testing.T) {
	for _, word := range []string{
		"a", "$", "a$", "a$A", "$A ", " $A", "$A$", "$A$A", "$A-", "$-A", "$A.B", "$9", "$ A", "$(A)", "$A}", "$A}A", "$A\n", "$A\x00", "$é",
		"${", "${}", "${A", "{A}", "${ A}", "${A }", "${A B}", "${A-B}", "${9}", "${9A}", "$ {A}", "${A\n}", "${é}", "${A:-b}", "a${", "${\xff}",
		"%A", "#A", "\\", "A", "}", "{", "\xff\xfe", "%n %% %", "'a b'",
	} {
		checkWord(t, word, env, word)
	}
	checkWord(t, "${A$$}", env, "${A$}")
	checkWord(t, "${${A}}", env, "${2 3}")
	checkWord(t, "$${${A}", env, "${2 3")
	checkWord(t, "$${$A}", env, "${$A}")
	checkWord(t, "${A${A}", env, "${A2 3")
	checkWord(t, "$A${A}", env, "$A2 3")
	checkWord(t, "${A}$A", env, "2 3$A")
	checkWord(t, "${A}}", env, "2 3}")
	checkWord(t, "${A}A}", env, "2 3A}")
}

// checkIsVariable checks in both places where it counts whether v is a name.
func checkIsVariable(t *testing.T, v string, is bool) {
	t.Helper()
	pairs := []api.Pair{{Name: v, Value: "b c"}}
	if is {
		checkVars(t, []string{"$" + v, "${" + v + "}", "a${" + v + "}d"}, pairs, "b", "c", "b c", "ab cd")
	} else {
		checkVars(t, []string{"$" + v, "${" + v + "}", "a${" + v + "}d"}, pairs, "$"+v, "${"+v+"}", "a${"+v+"}d")
	}
}

func TestEachByteOfVariableNames(t *testing.T) {
	const letters = "abcdefghijklmnopqrstuvwxyzABCDEFGHIJKLMNOPQRSTUVWXYZ_"
	for n := range 256 {
		c := string([]byte{byte(n)})
		first := strings.Contains(letters, c)
		later := first || strings.Contains("0123456789", c)
		if c == "$" || c == "}" {
			continue // these make another thing of what stands around them
		}
		checkIsVariable(t, c, first)
		checkIsVariable(t, c+"x", first)
		checkIsVariable(t, "x"+c, later)
		checkIsVariable(t, "x"+c+"x", later)
	}
}

func TestLengthOfVariableNames(t *testing.T) {
	for length := 1; length <= 130; length++ {
		checkIsVariable(t, strings.Repeat("a", length), length <= 60)
		checkIsVariable(t, "_"+strings.Repeat("9", length-1), length <= 60)
	}
	checkIsVariable(t, "", false)
	checkIsVariable(t, strings.Repeat("9", 60), false)
	checkIsVariable(t, strings.Repeat("a", 1<<16), false)
}

func TestTheLastPairCounts(t *testing.T) {
	pairs := []api.Pair{{Name: "A", Value: "1"}, {Name: "B", Value: "2"}, {Name: "A", Value: "3"}, {Name: "B", Value: ""}}
	checkVars(t, []string{"$A", "x${A}", "$B", "x${B}"}, pairs, "3", "x3", "x")
	checkVars(t, []string{"$A", "x${A}", "$B", "x${B}"}, pairs[:3], "3", "x3", "2", "x2")
	checkVars(t, []string{"$A", "x${A}", "$B", "x${B}"}, pairs[:1], "1", "x1", "x")
}

// P0.7: names are compared byte by byte.
func TestNamesDifferInCase(t *testing.T) {
	pairs := []api.Pair{{Name: "a", Value: "small"}, {Name: "A", Value: "great"}, {Name: "a ", Value: "blank"}, {Name: "\uff21", Value: "wide"}}
	checkVars(t, []string{"$a", "$A", "${a}", "${A}", "$Aa"}, pairs, "small", "great", "small", "great")
}

func TestOrderOfWords(t *testing.T) {
	checkVars(t, []string{"z", "$A", "y", "${A}", "$EMPTY", "x"}, env, "z", "2", "3", "y", "2 3", "x")
	checkVars(t, []string{"a", "a", "a"}, env, "a", "a", "a")
}

func TestVarsOfAllShortWords(t *testing.T) {
	for _, word := range textsOf(6, "$", "{", "}", "A", "9", " ") {
		checkVarsByForm(t, []string{word}, env)
		checkVarsByForm(t, []string{word, "$B", word}, env)
	}
}

func TestRandomVars(t *testing.T) {
	random := rand.New(rand.NewSource(1))
	pieces := []string{"$", "{", "}", "$$", "${A}", "${B}", "$C", "A", "_", "9", " ", "\t", "\n", "\xff", "é"}
	text := func(most int) string {
		var b strings.Builder
		for range random.Intn(most + 1) {
			b.WriteString(pieces[random.Intn(len(pieces))])
		}
		return b.String()
	}
	for range 20000 {
		l := make([]string, random.Intn(6))
		for i := range l {
			l[i] = text(8)
			if random.Intn(3) == 0 {
				l[i] = "$" + string("ABC_"[random.Intn(4)])
			}
		}
		pairs := make([]api.Pair, random.Intn(6))
		for i := range pairs {
			pairs[i] = api.Pair{Name: string("ABC_"[random.Intn(4)]), Value: text(6)}
		}
		checkVarsByForm(t, l, pairs)
	}
}

// The general rules

// P0.1, P0.2, P0.6: every call ends, also with long arguments, and "" stands
// beside an error.
func TestLongArguments(t *testing.T) {
	const length = 1 << 19
	letters := strings.Repeat("a", length)
	checkSpec(t, letters, "x.service", letters)
	checkSpec(t, strings.Repeat("%%", length), "x.service", strings.Repeat("%", length))
	checkSpec(t, strings.Repeat("%I", length), `x@\x.service`, strings.Repeat(`\x`, length))
	checkSpecError(t, "x.service", api.ErrSpec, letters+"%", strings.Repeat("%%", length)+"%", strings.Repeat("%n", length)+"%q")
	checkSpecError(t, letters, api.ErrName, letters, "%"+letters)
	checkSpecError(t, letters+".service", api.ErrName, letters, "%")
	checkSpecError(t, strings.Repeat("\x00", 60), api.ErrName, "%n")

	checkWord(t, letters, nil, letters)
	checkWord(t, "$"+letters, nil, "$"+letters)
	checkWord(t, "${"+letters+"}", nil, "${"+letters+"}")
	checkWord(t, strings.Repeat("$", 2*length), nil, strings.Repeat("$", length))
	checkWord(t, strings.Repeat("${", length), nil, strings.Repeat("${", length))
	checkWord(t, strings.Repeat("${a", length)+"}", nil, strings.Repeat("${a", length-1))
	checkWord(t, strings.Repeat("${A}", length), env, strings.Repeat("2 3", length))
	checkWord(t, "$A", []api.Pair{{Name: "A", Value: strings.Repeat("a \t", length)}}, slices.Repeat([]string{"a"}, length)...)
	checkVars(t, make([]string, length), nil, make([]string, length)...)
}

// P0.1: many words and many pairs together are no more than each alone.
func TestManyWordsAndPairs(t *testing.T) {
	const count = 1 << 18
	pairs := slices.Repeat([]api.Pair{{Name: "B", Value: "b"}}, count)
	pairs[0] = api.Pair{Name: "A", Value: "a a"}
	checkVars(t, slices.Repeat([]string{"$A"}, count), pairs, slices.Repeat([]string{"a"}, 2*count)...)
	checkVars(t, slices.Repeat([]string{"x${A}"}, count), pairs, slices.Repeat([]string{"xa a"}, count)...)
}

// P0.3: what a caller writes into one list changes no other one, and no argument.
func TestListsAreNew(t *testing.T) {
	for _, l := range [][]string{{"a", "b", "c"}, {"$A", "b", "$B"}, {"$A"}, {"$B", "$A", "$A"}, {"a"}, {"$DOLLAR"}} {
		before, pairs := slices.Clone(l), slices.Clone(env)
		want := expectedVars(l, env)
		first, second := expand.Vars(l, pairs), expand.Vars(l, pairs)
		for i := range first[:cap(first)] {
			first[:cap(first)][i] = "x"
		}
		if !slices.Equal(second, want) {
			t.Errorf("a list that another call returned is now %q", second)
		}
		if !slices.Equal(l, before) || !slices.Equal(pairs, env) {
			t.Errorf("the arguments are now %q, %q", l, pairs)
		}
		checkVars(t, l, pairs, want...)
	}
}

// P0.3: the arguments remain as they are, also behind their ends, and are not
// looked at any more later.
func TestArgumentsAreLeft(t *testing.T) {
	l := []string{"$A", "b${A}", "behind", "$A"}
	pairs := []api.Pair{{Name: "A", Value: "1 2 3"}, {Name: "A", Value: "behind"}, {Name: "B", Value: "behind"}}
	got := expand.Vars(l[:2], pairs[:1])
	if want := []string{"$A", "b${A}", "behind", "$A"}; !slices.Equal(l, want) {
		t.Errorf("the words are now %q", l)
	}
	if want := []api.Pair{{Name: "A", Value: "1 2 3"}, {Name: "A", Value: "behind"}, {Name: "B", Value: "behind"}}; !slices.Equal(pairs, want) {
		t.Errorf("the pairs are now %q", pairs)
	}
	clear(l)
	clear(pairs)
	if want := []string{"1", "2", "3", "b1 2 3"}; !slices.Equal(got, want) {
		t.Errorf("the result is now %q", got)
	}
}

// P0.4: nil and an empty list are the same.
func TestNilAndEmpty(t *testing.T) {
	for _, pairs := range [][]api.Pair{nil, {}, env} {
		checkVars(t, nil, pairs)
		checkVars(t, []string{}, pairs)
	}
	for _, pairs := range [][]api.Pair{nil, {}} {
		checkVars(t, []string{"$A", "a${A}", "$$"}, pairs, "a", "$")
	}
}

// P0.5: a call answers the same whatever was called before it or is called beside it.
func TestCallsKeepNothing(t *testing.T) {
	var group sync.WaitGroup
	words := textsOf(4, "$", "{", "}", "A", "B")
	texts := textsOf(4, "%", "n", "p", "I", "q")
	for i := range 4 {
		group.Go(func() {
			pairs := env[i:]
			for k := range words {
				checkVarsByForm(t, []string{words[(k*7+i*100)%len(words)], "$A"}, pairs)
				checkSpecByForm(t, texts[(k*7+i*100)%len(texts)], "a@b-"+string("cdef"[i])+".service")
			}
		})
	}
	group.Wait()
}

// textsOf returns all texts of up to the given number of pieces.
func textsOf(most int, pieces ...string) []string {
	texts := []string{""}
	last := texts
	for range most {
		var longer []string
		for _, s := range last {
			for _, p := range pieces {
				longer = append(longer, s+p)
			}
		}
		texts = append(texts, longer...)
		last = longer
	}
	return texts
}
