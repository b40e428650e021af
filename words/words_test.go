package words_test

import (
	"math/rand"
	"regexp"
	"slices"
	"strings"
	"sync"
	"testing"

	"matins/api"
	"matins/words"
)

// The limit is written out, so that the tests do not hang on package api alone.
const maxWords = 32

const hexDigits = "0123456789abcdef"

// The forms of P5.1, told independently of the package. In a text to be matched
// each byte stands as the rune of the same number (see wide).
const (
	anEscape  = `\\(?:["'nts\\]|x(?:0[1-9a-f]|[1-9a-f][0-9a-f]))`
	aByte     = `[^\x00-\x20\x7f"'\\]`
	inSingle  = `(?:[^\x00-\x08\x0a-\x1f\x7f'\\]|` + anEscape + `)*`
	inDouble  = `(?:[^\x00-\x08\x0a-\x1f\x7f"\\]|` + anEscape + `)*`
	aPiece    = `(?:` + aByte + `|` + anEscape + `|'` + inSingle + `'|"` + inDouble + `")`
	unclosed  = `(?:'` + inSingle + `|"` + inDouble + `)`
	aWord     = `(?:` + aPiece + `+` + unclosed + `?|` + unclosed + `)`
	soundPart = `^(?:[ \t]|` + aPiece + `)*` + unclosed + `?`
)

var (
	sound     = regexp.MustCompile(soundPart)
	word      = regexp.MustCompile(aWord)
	piece     = regexp.MustCompile(aPiece)
	ending    = regexp.MustCompile(`^(?:[ \t]|` + aPiece + `)*$`)
	unit      = regexp.MustCompile(anEscape + `|(?s:.)`)
	plainWord = regexp.MustCompile(`^[!#-&(-,./0-\[\]-~][!#-&(-\[\]-~]*$`)
)

func init() {
	sound.Longest()
	word.Longest()
}

// wide writes each byte of s as the rune of that number.
func wide(s string) string {
	runes := make([]rune, len(s))
	for i := range len(s) {
		runes[i] = rune(s[i])
	}
	return string(runes)
}

// narrow undoes wide.
func narrow(s string) string {
	var b []byte
	for _, r := range s {
		b = append(b, byte(r))
	}
	return string(b)
}

// expected returns what Split(s) is to return: it finds how far s is without
// error, and then the words of that part.
func expected(s string) ([]string, api.Errno) {
	w := wide(s)
	part := sound.FindString(w)
	found := word.FindAllString(part, maxWords+1)
	switch {
	case len(found) > maxWords:
		return nil, api.ErrLong
	case part != w && w[len(part)] == '\\':
		return nil, api.ErrQuote
	case part != w:
		return nil, api.ErrForm
	case !ending.MatchString(w):
		return nil, api.ErrQuote
	}
	var l []string
	for _, text := range found {
		l = append(l, meaning(text))
	}
	return l, api.OK
}

// meaning returns what a word without error denotes.
func meaning(text string) string {
	var b strings.Builder
	for _, p := range piece.FindAllString(text, -1) {
		if p[0] == '\'' || p[0] == '"' {
			p = p[1 : len(p)-1]
		}
		for _, u := range unit.FindAllString(p, -1) {
			b.WriteString(denoted(u))
		}
	}
	return b.String()
}

// denoted returns the byte that an unescaped byte or an escape denotes.
func denoted(u string) string {
	if len(u) < 2 || u[0] != '\\' {
		return narrow(u)
	}
	switch u[1] {
	case 'n':
		return "\x0a"
	case 't':
		return "\x09"
	case 's':
		return "\x20"
	case 'x':
		n := strings.IndexByte(hexDigits, u[2])*16 + strings.IndexByte(hexDigits, u[3])
		return string([]byte{byte(n)})
	}
	return u[1:]
}

func checkSplit(t *testing.T, s string, want []string, wantErr api.Errno) {
	t.Helper()
	l, err := words.Split(s)
	if !slices.Equal(l, want) || err != wantErr {
		t.Errorf("Split(%.100q) = %.300q, %d, want %.300q, %d", s, l, err, want, wantErr)
	}
	if err != api.OK && l != nil {
		t.Errorf("Split(%.100q) = %.300q beside error %d", s, l, err)
	}
}

// checkByForm checks Split(s) against the forms above.
func checkByForm(t *testing.T, s string) {
	t.Helper()
	want, wantErr := expected(s)
	checkSplit(t, s, want, wantErr)
}

func checkWords(t *testing.T, s string, want ...string) {
	t.Helper()
	checkSplit(t, s, want, api.OK)
}

func checkError(t *testing.T, err api.Errno, texts ...string) {
	t.Helper()
	for _, s := range texts {
		checkSplit(t, s, nil, err)
	}
}

// P5.1

func TestLimit(t *testing.T) {
	if api.MaxWords != maxWords {
		t.Errorf("MaxWords %d", api.MaxWords)
	}
}

func TestSplitAtBlanks(t *testing.T) {
	for _, s := range []string{"", " ", "\t", " \t \t", strings.Repeat(" ", 50)} {
		checkWords(t, s)
	}
	for _, s := range []string{"a bc", "a\tbc", " a bc", "a bc ", "a  bc", "a \t bc", "\t\ta\t\tbc\t\t", "  a    bc  "} {
		checkWords(t, s, "a", "bc")
	}
	checkWords(t, "/bin/echo -n $x ${y} %i a=b;c|d>e&f #g", "/bin/echo", "-n", "$x", "${y}", "%i", "a=b;c|d>e&f", "#g")
	checkWords(t, "\u00a0a\u2003b\u0085\xa0 \x85", "\u00a0a\u2003b\u0085\xa0", "\x85")
}

func TestSplitQuotes(t *testing.T) {
	checkWords(t, `'a b' "c d"`, "a b", "c d")
	checkWords(t, "'a\tb' \"c\td\"", "a\tb", "c\td")
	checkWords(t, `' ' "  "`, " ", "  ")
	checkWords(t, `' a ' " b "`, " a ", " b ")
	checkWords(t, `'a"b' "c'd"`, `a"b`, "c'd")
	checkWords(t, `'a""b' "c''d"`, `a""b`, "c''d")
	checkWords(t, `'"' "'"`, `"`, "'")
}

func TestSplitAdjacentPieces(t *testing.T) {
	checkWords(t, `a'b c'd`, "ab cd")
	checkWords(t, `a"b c"d`, "ab cd")
	checkWords(t, `'a''b'"c""d"'e'"f"g`, "abcdefg")
	checkWords(t, `'a' 'b'"c" "d"`, "a", "bc", "d")
	checkWords(t, `a''b ''c d""`, "ab", "c", "d")
	checkWords(t, `\sa\s\t"b"\n'c'`, " a \tb\nc")
	checkWords(t, `it"'"s`, "it's")
}

func TestSplitEmptyWords(t *testing.T) {
	checkWords(t, `''`, "")
	checkWords(t, `""`, "")
	checkWords(t, `''""''`, "")
	checkWords(t, `'' ""`, "", "")
	checkWords(t, ` a '' b "" `, "a", "", "b", "")
	checkWords(t, "''\t''", "", "")
}

func TestSplitEscapes(t *testing.T) {
	checkWords(t, `\\ \" \' \n \t \s`, `\`, `"`, "'", "\n", "\t", " ")
	checkWords(t, `'\\ \" \' \n \t \s'`, "\\ \" ' \n \t  ")
	checkWords(t, `"\\ \" \' \n \t \s"`, "\\ \" ' \n \t  ")
	checkWords(t, `'\'' "\"" '\\' "\\"`, "'", `"`, `\`, `\`)
	checkWords(t, `\s\s\t`, "  \t")
	checkWords(t, `a\sb a\tb`, "a b", "a\tb")
	checkWords(t, `\x01\x0a\x1f\x20\x7f \xff '\x09' "\x22\x27\x5c"`, "\x01\n\x1f \x7f", "\xff", "\t", "\"'\\")
	checkWords(t, `\\n \\\\ \x5cn \x41b \x411`, `\n`, `\\`, `\n`, "Ab", "A1")
	checkWords(t, `\"a b\" \'c`, `"a`, `b"`, "'c")
}

func TestSplitEveryByte(t *testing.T) {
	for n := range 256 {
		c := string([]byte{byte(n)})
		for _, s := range []string{
			c, "a" + c + "b", c + "a", "a" + c, "a " + c + " b", c + c,
			"'" + c + "'", `"` + c + `"`, "'a" + c + "b'", `"a` + c + `b"`, "'" + c, `"` + c,
		} {
			checkByForm(t, s)
		}
		switch {
		case c == " " || c == "\t":
			checkWords(t, "a"+c+"b", "a", "b")
			checkWords(t, "'a"+c+"b'", "a"+c+"b")
		case n < 32 || n == 127:
			checkError(t, api.ErrForm, c, "a"+c+"b", "'a"+c+"b'", `"a`+c+`b"`)
		case c != "'" && c != `"` && c != `\`:
			checkWords(t, "a"+c+"b", "a"+c+"b")
			checkWords(t, "'a"+c+"b'", "a"+c+"b")
			checkWords(t, `"a`+c+`b"`, "a"+c+"b")
		}
	}
}

// shapes are the surroundings in which an escape must mean the same.
var shapes = [][2]string{{"", ""}, {"'", "'"}, {`"`, `"`}}

func TestSplitEveryEscape(t *testing.T) {
	meanings := map[string]string{`\`: `\`, `"`: `"`, "'": "'", "n": "\n", "t": "\t", "s": " "}
	for n := range 256 {
		c := string([]byte{byte(n)})
		for _, shape := range shapes {
			s := shape[0] + "a" + `\` + c + "b" + shape[1]
			if meant, ok := meanings[c]; ok {
				checkWords(t, s, "a"+meant+"b")
			} else {
				checkError(t, api.ErrQuote, s)
			}
		}
	}
}

func TestSplitEveryPairOfDigits(t *testing.T) {
	for n := range 1 << 16 {
		high, low := byte(n>>8), byte(n)
		digits := string([]byte{high, low})
		value := strings.IndexByte(hexDigits, high)*16 + strings.IndexByte(hexDigits, low)
		valid := strings.IndexByte(hexDigits, high) >= 0 && strings.IndexByte(hexDigits, low) >= 0 && value != 0
		for _, shape := range shapes {
			s := shape[0] + `\x` + digits + shape[1]
			if valid {
				checkWords(t, s, string([]byte{byte(value)}))
			} else {
				checkError(t, api.ErrQuote, s)
			}
		}
	}
}

func TestSplitRefusesWhatIsNoEscape(t *testing.T) {
	checkError(t, api.ErrQuote,
		`\`, `a\`, `a \`, `'\`, `"\`, `'a\`, `\\\`, `\ `, `\ a`, "\\\t", "\\\n", `\a`, `\r`, `\0`, `\S`, `\N`, `\T`, `\X41`,
		`\x`, `\x4`, `'\x4'`, `"\x4"`, `\x `, `\x4 1`, `\x00`, `\xAA`, `\xaA`, `\xFf`, `\xg0`, `\x0g`, `\x-1`, `\x+1`, `\x 1`,
		`\u0041`, `\041`, `\$`, `\-`, `\%`, `a\qb`, `'\q'`, `"\q"`,
	)
}

func TestSplitRefusesOpenQuotes(t *testing.T) {
	checkError(t, api.ErrQuote,
		`'`, `"`, `'a`, `"a`, `a'`, `a"`, `'a"`, `"a'`, `'a' '`, `"a" "`, `'''`, `"""`, `'a\'`, `"a\"`, `it's`, ` ' `, ` " `, `'"'"`,
	)
}

func TestSplitReturnsTheErrorAtTheFirstOffset(t *testing.T) {
	checkError(t, api.ErrForm, "\x01\\q", "a\x01'", "'\x01", "\"a\x7f\\", "a \n \\", "\x00\\q'", "'a' \x1f \"")
	checkError(t, api.ErrQuote, "\\q\x01", "\\\x01", "'\\q\x01'", "\\x\x01\x01", "\\x4\x7f", "\\x00\x01", "a \\q \x01", "\\q'")
}

// many returns count words, and a blank behind each.
func many(count int) string {
	return strings.Repeat("a ", count)
}

func TestSplitMaxWords(t *testing.T) {
	for count := range maxWords + 1 {
		checkWords(t, many(count), slices.Repeat([]string{"a"}, count)...)
	}
	last := slices.Repeat([]string{"a"}, maxWords-1)
	for text, meant := range map[string]string{"b": "b", "''": "", `""`: "", "'b c'": "b c", `b'c'"d"\s`: "bcd ", `\n`: "\n"} {
		checkWords(t, many(maxWords-1)+text+" \t ", append(slices.Clone(last), meant)...)
	}
	checkWords(t, strings.Repeat("'' ", maxWords), make([]string, maxWords)...)
}

func TestSplitTooManyWords(t *testing.T) {
	full := many(maxWords)
	checkError(t, api.ErrLong,
		full+"b", full+"\t  b", full+"''", full+`""`, full+`\n`, full+`\x41`, full+"'", full+`"`, full+"\xff",
		full+many(1), full+many(1000), strings.Repeat("'' ", maxWords+1), "  "+full+"b",
	)
	// The error at the least offset counts, and the 33rd word is one at its own.
	checkError(t, api.ErrLong, full+"b\x01", full+`b\q`, full+"'b", full+"'\x01", full+"b c \x01", full+"b\\")
	// At one offset, the two other errors come before this one.
	checkError(t, api.ErrForm, full+"\x01", full+"\n", full+"\x7f", full+" \x01 b")
	checkError(t, api.ErrQuote, full+`\`, full+`\q`, full+`\x00`, full+`\ b`)
	// What comes before the 33rd word comes first.
	checkError(t, api.ErrForm, "\x01 "+full+"b", full[:len(full)-1]+"\x01 b")
	checkError(t, api.ErrQuote, `\q `+full+"b", "'"+full+"b", `"`+full+"b", many(maxWords-1)+"'a b c d")
}

func TestSplitAllShortTexts(t *testing.T) {
	for _, s := range shortTexts() {
		checkByForm(t, s)
		checkByForm(t, many(maxWords-1)+s)
	}
}

func TestSplitRandomTexts(t *testing.T) {
	random := rand.New(rand.NewSource(1))
	for range 20000 {
		var b strings.Builder
		for range random.Intn(80) {
			b.WriteString(pieces[random.Intn(len(pieces))])
		}
		checkByForm(t, b.String())
	}
}

// P5.2

func checkJoin(t *testing.T, want string, l ...string) {
	t.Helper()
	if got := words.Join(l); got != want {
		t.Errorf("Join(%.300q) = %.300q, want %.300q", l, got, want)
	}
}

// joined returns what Join(l) is to return.
func joined(l []string) string {
	if len(l) > maxWords || slices.ContainsFunc(l, func(s string) bool { return strings.Contains(s, "\x00") }) {
		return ""
	}
	var texts []string
	for _, s := range l {
		if !plainWord.MatchString(wide(s)) {
			s = quoted(s)
		}
		texts = append(texts, s)
	}
	return strings.Join(texts, " ")
}

// quoted returns a word in double quotes.
func quoted(s string) string {
	s = strings.ReplaceAll(strings.ReplaceAll(s, `\`, `\\`), `"`, `\"`)
	for n := 1; n < 256; n++ {
		if n < 32 || n > 126 {
			s = strings.ReplaceAll(s, string([]byte{byte(n)}), `\x`+hexDigits[n/16:n/16+1]+hexDigits[n%16:n%16+1])
		}
	}
	return `"` + s + `"`
}

// checkRoundTrip checks Join(l) and, if it is a command line, what Split makes
// of it.
func checkRoundTrip(t *testing.T, l ...string) {
	t.Helper()
	before := slices.Clone(l)
	checkJoin(t, joined(l), l...)
	if len(l) > maxWords || strings.Contains(strings.Join(l, ""), "\x00") {
		return
	}
	checkWords(t, words.Join(l), before...)
	if !slices.Equal(l, before) {
		t.Errorf("Join changed its argument: %q, %q", before, l)
	}
}

func TestJoinPlainWords(t *testing.T) {
	checkJoin(t, "")
	checkJoin(t, "a", "a")
	checkJoin(t, "a bc d", "a", "bc", "d")
	checkJoin(t, "/bin/sh a=b $x ${y} %i a-b a- [~]", "/bin/sh", "a=b", "$x", "${y}", "%i", "a-b", "a-", "[~]")
	checkJoin(t, "!#$%&()*+,-./09:;<=>?@AZ[]^_`az{|}~", "!#$%&()*+,-./09:;<=>?@AZ[]^_`az{|}~")
}

func TestJoinQuotedWords(t *testing.T) {
	checkJoin(t, `""`, "")
	checkJoin(t, `"" "" a ""`, "", "", "a", "")
	checkJoin(t, `"-" "-a" "--" a-`, "-", "-a", "--", "a-")
	checkJoin(t, `" " "a b" " a" "a "`, " ", "a b", " a", "a ")
	checkJoin(t, `"'" "it's"`, "'", "it's")
	checkJoin(t, `"\"" "a\"b" "\\" "a\\b" "\\n"`, `"`, `a"b`, `\`, `a\b`, `\n`)
	checkJoin(t, `"\x09" "\x0a" "\x01" "\x1f" "\x7f" "\x80" "\xff" "\xc3\xa4"`, "\t", "\n", "\x01", "\x1f", "\x7f", "\x80", "\xff", "ä")
	checkJoin(t, `"a\"\\'\x09\xfe ~!b"`, "a\"\\'\t\xfe ~!b")
}

func TestJoinEveryByte(t *testing.T) {
	for n := range 256 {
		c := string([]byte{byte(n)})
		for _, s := range []string{c, "a" + c, c + "a", "a" + c + "b", "a b" + c, "-" + c} {
			checkRoundTrip(t, s)
			checkRoundTrip(t, "a", s, "b")
		}
		if n == 0 {
			checkJoin(t, "", c)
			continue
		}
		hex := `\x` + hexDigits[n/16:n/16+1] + hexDigits[n%16:n%16+1]
		switch {
		case c == `"` || c == `\`:
			checkJoin(t, `"`+`\`+c+`"`, c)
		case n < 32 || n > 126:
			checkJoin(t, `"`+hex+`"`, c)
		case c == " " || c == "'" || c == "-":
			checkJoin(t, `"`+c+`"`, c)
		default:
			checkJoin(t, c, c)
		}
	}
}

func TestJoinMaxWords(t *testing.T) {
	for count := range 100 {
		l := slices.Repeat([]string{"a"}, count)
		checkRoundTrip(t, l...)
		checkRoundTrip(t, make([]string, count)...)
		if got := words.Join(l); (got == "") != (count == 0 || count > maxWords) {
			t.Errorf("Join of %d words: %q", count, got)
		}
	}
}

func TestJoinRefusesZeroBytes(t *testing.T) {
	for _, s := range []string{"\x00", "a\x00", "\x00a", "a\x00b", "a b\x00", "\x00\x00"} {
		checkJoin(t, "", s)
		checkJoin(t, "", s, "a")
		checkJoin(t, "", "a", s)
		checkJoin(t, "", append(slices.Repeat([]string{"a"}, maxWords-1), s)...)
		checkJoin(t, "", append(slices.Repeat([]string{"a"}, maxWords), s)...)
	}
}

func TestSplitReversesJoin(t *testing.T) {
	texts := shortTexts()
	for i, s := range texts {
		checkRoundTrip(t, s)
		checkRoundTrip(t, s, texts[(i*7+3)%len(texts)], s)
	}
	random := rand.New(rand.NewSource(2))
	for range 5000 {
		l := make([]string, random.Intn(maxWords+2))
		for i := range l {
			l[i] = strings.ReplaceAll(randomText(random), "\x00", "\x01")
		}
		checkRoundTrip(t, l...)
	}
}

func randomText(random *rand.Rand) string {
	text := make([]byte, random.Intn(12))
	random.Read(text)
	return string(text)
}

// General rules

// P0.1, P0.2: every call ends, and nil stands beside an error.
func TestLongArguments(t *testing.T) {
	const length = 1 << 20
	blanks, letters := strings.Repeat(" \t", length), strings.Repeat("a", length)
	checkWords(t, blanks)
	checkWords(t, letters, letters)
	checkWords(t, blanks+letters+blanks+letters+blanks, letters, letters)
	checkWords(t, "'"+blanks+`'"`+letters+`"`+letters, blanks+letters+letters)
	checkWords(t, strings.Repeat(`\x41`, length), strings.Repeat("A", length))
	checkWords(t, strings.Repeat(`''`, length), "")
	checkWords(t, strings.Repeat("\xff", length), strings.Repeat("\xff", length))
	checkError(t, api.ErrQuote, strings.Repeat(`'`, length+1), strings.Repeat(`\`, length+1), letters+"'", "'"+letters)
	checkError(t, api.ErrForm, strings.Repeat("\x00", length), letters+"\x00", "'"+letters+"\x00")
	checkError(t, api.ErrLong, strings.Repeat("a ", length), many(maxWords)+blanks+letters)

	checkJoin(t, letters+" "+letters, letters, letters)
	checkJoin(t, `"`+strings.Repeat(`\xff`, length)+`"`, strings.Repeat("\xff", length))
	checkJoin(t, "", letters+"\x00")
	checkJoin(t, "", make([]string, length)...)
	checkJoin(t, "", slices.Repeat([]string{"a"}, length)...)
}

// P0.3: what a caller writes into one list changes no other one.
func TestListsAreNew(t *testing.T) {
	const s = `a 'b c' d`
	first, _ := words.Split(s)
	second, _ := words.Split(s)
	for i := range first[:cap(first)] {
		first[:cap(first)][i] = "x"
	}
	if want := []string{"a", "b c", "d"}; !slices.Equal(second, want) {
		t.Errorf("a list that another call returned is now %q", second)
	}
	checkWords(t, s, "a", "b c", "d")
}

// P0.3: Join keeps and changes nothing of its argument, not even behind its end.
func TestJoinLeavesItsArgument(t *testing.T) {
	l := []string{"a", "b c", "d", "behind"}
	got := words.Join(l[:2])
	if want := []string{"a", "b c", "d", "behind"}; !slices.Equal(l, want) {
		t.Errorf("Join changed its argument to %q", l)
	}
	l[0], l[1] = "x", "y"
	if got != `a "b c"` {
		t.Errorf("Join(a, b c) = %q", got)
	}
}

// P0.4: nil and an empty list are the same.
func TestNilAndEmpty(t *testing.T) {
	if nothing, empty := words.Join(nil), words.Join([]string{}); nothing != "" || empty != "" {
		t.Errorf("Join of nothing: %q, %q", nothing, empty)
	}
}

// P0.5: a call answers the same whatever was called before it or is called beside it.
func TestCallsKeepNothing(t *testing.T) {
	var group sync.WaitGroup
	texts := shortTexts()[:3000]
	for i := range 4 {
		group.Go(func() {
			for k := range texts {
				s := texts[(k*7+i*1000)%len(texts)]
				checkByForm(t, s)
				checkRoundTrip(t, s, "b", texts[k])
			}
		})
	}
	group.Wait()
}

// pieces are what matters to command lines, but for what is an error wherever
// it stands.
var pieces = []string{"a", " ", "\t", "'", `"`, `\\`, `\'`, `\"`, `\s`, `\x41`, `''`, "\xff"}

// shortTexts returns all texts of up to four of the pieces, of the backslash and
// of a byte without form.
func shortTexts() []string {
	pieces := append(slices.Clone(pieces), `\`, "\x01")
	texts := []string{""}
	last := texts
	for range 4 {
		var longer []string
		for _, s := range last {
			for _, p := range pieces {
				longer = append(longer, s+p)
			}
		}
		texts = append(texts, longer...)
		last = longer
	}
	return texts
}
