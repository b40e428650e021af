package cal_test

import (
	"fmt"
	"math/rand"
	"regexp"
	"slices"
	"strconv"
	"strings"
	"testing"

	"matins/api"
	"matins/cal"
)

var dayNames = []string{"Mon", "Tue", "Wed", "Thu", "Fri", "Sat", "Sun"}

// shorthands is the table of P4.2.
var shorthands = map[string]string{
	"minutely": "*-*-* *:*:00",
	"hourly":   "*-*-* *:00:00",
	"daily":    "*-*-* 00:00:00",
	"weekly":   "Mon *-*-* 00:00:00",
	"monthly":  "*-*-01 00:00:00",
	"yearly":   "*-01-01 00:00:00",
}

// expressions describes the form of P4.2 independently of the package.
var expressions = func() *regexp.Regexp {
	const (
		day   = `(?:Mon|Tue|Wed|Thu|Fri|Sat|Sun)`
		item  = day + `(?:\.\.` + day + `)?`
		days  = item + `(?:,` + item + `)*`
		part  = `(?:\*|[0-9]{1,4}(?:\.\.[0-9]{1,4})?)(?:/[0-9]{1,4})?`
		field = part + `(?:,` + part + `){0,3}`
		date  = `(` + field + `)-(` + field + `)-(` + field + `)`
		clock = `(` + field + `):(` + field + `)(?::(` + field + `))?`
	)
	return regexp.MustCompile(`^(?:(` + days + `)(?: |$))?(?:` + date + `(?: |$))?(?:` + clock + `)?$`)
}()

// expected returns what Parse(s) is to return.
func expected(s string) (api.Cal, bool) {
	if len(s) > 400 {
		return api.Cal{}, false
	}
	if long, ok := shorthands[s]; ok {
		s = long
	}
	m := expressions.FindStringSubmatch(s)
	if m == nil || s == "" || strings.HasSuffix(s, " ") {
		return api.Cal{}, false
	}
	c := api.Cal{Days: expectedDays(m[1])}
	if m[1] != "" && c.Days == nil {
		return api.Cal{}, false
	}
	texts := m[2:8]
	for field, missing := range []string{"*", "*", "*", "0", "0", "0"} {
		if texts[field] == "" {
			texts[field] = missing
		}
		parts, ok := expectedParts(texts[field])
		if !ok {
			return api.Cal{}, false
		}
		*listOf(&c, field) = parts
	}
	if !valid(c) {
		return api.Cal{}, false
	}
	return c, true
}

// expectedDays returns the weekdays that a word of the right form names, or
// nil if an item is a wrong range.
func expectedDays(word string) []int {
	var named [8]bool
	for item := range strings.SplitSeq(word, ",") {
		ends := strings.Split(item, "..")
		first := slices.Index(dayNames, ends[0]) + 1
		last := slices.Index(dayNames, ends[len(ends)-1]) + 1
		if last < first {
			return nil
		}
		for day := first; day <= last; day++ {
			named[day] = true
		}
	}
	var days []int
	for day := 1; day <= 7; day++ {
		if named[day] {
			days = append(days, day)
		}
	}
	return days
}

// expectedParts returns the parts of a field of the right form, and whether
// each Step may be.
func expectedParts(text string) ([]api.Part, bool) {
	var parts []api.Part
	for part := range strings.SplitSeq(text, ",") {
		p := api.Part{From: -1, To: -1}
		ends, step, stepped := strings.Cut(part, "/")
		p.Step, _ = strconv.Atoi(step)
		if stepped && p.Step == 0 {
			return nil, false
		}
		if ends != "*" {
			from, to, ranged := strings.Cut(ends, "..")
			p.From, _ = strconv.Atoi(from)
			if ranged {
				p.To, _ = strconv.Atoi(to)
			}
		}
		parts = append(parts, p)
	}
	return parts, true
}

// printed is P4.3, told anew, for a valid calendar.
func printed(c api.Cal) string {
	var days []string
	for _, day := range c.Days {
		days = append(days, dayNames[day-1])
	}
	var fields [6]string
	for field := range 6 {
		var texts []string
		for _, p := range *listOf(&c, field) {
			text := "*"
			if p.From >= 0 {
				text = fmt.Sprintf("%02d", p.From)
			}
			if p.To >= 0 {
				text += fmt.Sprintf("..%02d", p.To)
			}
			if p.Step != 0 {
				text += fmt.Sprintf("/%d", p.Step)
			}
			texts = append(texts, text)
		}
		fields[field] = strings.Join(texts, ",")
	}
	words := []string{strings.Join(fields[:3], "-"), strings.Join(fields[3:], ":")}
	if len(days) > 0 {
		words = append([]string{strings.Join(days, ",")}, words...)
	}
	return strings.Join(words, " ")
}

// checkParse checks what Parse says of s against the independent description.
func checkParse(t *testing.T, s string) {
	t.Helper()
	want, wantOK := expected(s)
	if c, ok := cal.Parse(s); ok != wantOK || !same(c, want) {
		t.Errorf("Parse(%.500q) = %v, %v, want %v, %v", s, c, ok, want, wantOK)
	}
}

func checkRefused(t *testing.T, s string) {
	t.Helper()
	checkParse(t, s)
	if c, ok := cal.Parse(s); ok || !same(c, api.Cal{}) {
		t.Errorf("Parse(%.500q) = %v, %v", s, c, ok)
	}
}

// P4.2

func TestShorthands(t *testing.T) {
	midnight := api.Cal{Year: every(), Month: every(), Day: every(), Hour: one(0), Min: one(0), Sec: one(0)}
	minutely, hourly, weekly, monthly, yearly := midnight, midnight, midnight, midnight, midnight
	minutely.Hour, minutely.Min = every(), every()
	hourly.Hour = every()
	weekly.Days = []int{1}
	monthly.Day = one(1)
	yearly.Month, yearly.Day = one(1), one(1)
	for s, want := range map[string]api.Cal{
		"minutely": minutely, "hourly": hourly, "daily": midnight, "weekly": weekly, "monthly": monthly, "yearly": yearly,
	} {
		c, ok := cal.Parse(s)
		full, fullOK := cal.Parse(shorthands[s])
		if !ok || !fullOK || !same(c, want) || !same(full, want) || cal.Print(c) != shorthands[s] {
			t.Errorf("Parse(%q) = %v, %v", s, c, ok)
		}
		for _, other := range []string{
			" " + s, s + " ", s + " 0:0", "Mon " + s, "*-*-* " + s, s + " *-*-*", s + "," + s, s + " " + s, strings.ToUpper(s), s[:len(s)-1], s + "y", s[1:],
			strings.ToUpper(s[:1]) + s[1:], s + "\n", s + "\x00",
		} {
			checkRefused(t, other)
		}
	}
}

func TestParseKnown(t *testing.T) {
	type parts = []api.Part
	midnight := api.Cal{Year: every(), Month: every(), Day: every(), Hour: one(0), Min: one(0), Sec: one(0)}
	for _, x := range []struct {
		s                                string
		days                             []int
		year, month, day, hour, min, sec parts
	}{
		{"Mon", []int{1}, nil, nil, nil, nil, nil, nil},
		{"Sun", []int{7}, nil, nil, nil, nil, nil, nil},
		{"Mon,Tue,Wed,Thu,Fri,Sat,Sun", []int{1, 2, 3, 4, 5, 6, 7}, nil, nil, nil, nil, nil, nil},
		{"Mon..Sun", []int{1, 2, 3, 4, 5, 6, 7}, nil, nil, nil, nil, nil, nil},
		{"Wed..Wed", []int{3}, nil, nil, nil, nil, nil, nil},
		{"Sat..Sun,Mon", []int{1, 6, 7}, nil, nil, nil, nil, nil, nil},
		{"Sun,Sat,Fri", []int{5, 6, 7}, nil, nil, nil, nil, nil, nil},
		{"Thu,Thu", []int{4}, nil, nil, nil, nil, nil, nil},
		{"Tue..Thu,Wed..Fri,Thu,Tue", []int{2, 3, 4, 5}, nil, nil, nil, nil, nil, nil},
		{"*-*-*", nil, nil, nil, nil, nil, nil, nil},
		{"2000-1-1", nil, one(2000), one(1), one(1), nil, nil, nil},
		{"2199-12-31", nil, one(2199), one(12), one(31), nil, nil, nil},
		{"2024-0002-0030", nil, one(2024), one(2), one(30), nil, nil, nil},
		{"5:6", nil, nil, nil, nil, one(5), one(6), nil},
		{"5:6:7", nil, nil, nil, nil, one(5), one(6), one(7)},
		{"0023:0059:0059", nil, nil, nil, nil, one(23), one(59), one(59)},
		{"*:*", nil, nil, nil, nil, every(), every(), nil},
		{"*:*:*", nil, nil, nil, nil, every(), every(), every()},
		{"Mon *-*-*", []int{1}, nil, nil, nil, nil, nil, nil},
		{"Mon 5:6", []int{1}, nil, nil, nil, one(5), one(6), nil},
		{"*-*-* 5:6", nil, nil, nil, nil, one(5), one(6), nil},
		{"Fri 2026-11-20 17:30:01", []int{5}, one(2026), one(11), one(20), one(17), one(30), one(1)},
		{"*/7-*/1-*/0031 */9999:*/09:*", nil, parts{{From: -1, To: -1, Step: 7}}, parts{{From: -1, To: -1, Step: 1}}, parts{{From: -1, To: -1, Step: 31}}, parts{{From: -1, To: -1, Step: 9999}}, parts{{From: -1, To: -1, Step: 9}}, every()},
		{"2000..2199/3-1..12-4..4 5/6:7..8,9:1,2,3,4", nil, parts{{From: 2000, To: 2199, Step: 3}}, parts{{From: 1, To: 12}}, parts{{From: 4, To: 4}}, parts{{From: 5, To: -1, Step: 6}}, parts{{From: 7, To: 8}, {From: 9, To: -1}}, parts{{From: 1, To: -1}, {From: 2, To: -1}, {From: 3, To: -1}, {From: 4, To: -1}}},
		{"0:5,5,*,5..0005/1", nil, nil, nil, nil, one(0), parts{{From: 5, To: -1}, {From: 5, To: -1}, {From: -1, To: -1}, {From: 5, To: 5, Step: 1}}, nil},
	} {
		want := midnight
		want.Days = x.days
		for field, list := range []parts{x.year, x.month, x.day, x.hour, x.min, x.sec} {
			if list != nil {
				*listOf(&want, field) = list
			}
		}
		if c, ok := cal.Parse(x.s); !ok || !same(c, want) {
			t.Errorf("Parse(%q) = %v, %v, want %v", x.s, c, ok, want)
		}
		checkParse(t, x.s)
	}
}

func TestParseRefuses(t *testing.T) {
	for _, s := range []string{
		"", " ", "  ", "\t", "\x00", "x", "1", "*", ",", "-", "--", ":", "::", "/", "..", "*-*", "*-*-*-*", "*", "1:2:3:4", "-*-*", "*-*-", "*--*", ":5", "5:", "5::5", "5:5:",
		"Mon ", " Mon", "Mon  5:5", "Mon  *-*-*", "*-*-*  5:5", "*-*-* ", " 5:5", "5:5 ", "Mon\t5:5", "Mon\n5:5", "*-*-*\t5:5", "*-*-*T5:5", "Mon\u00a05:5",
		"5:5 Mon", "*-*-* Mon", "5:5 *-*-*", "Mon 5:5 *-*-*", "*-*-* Mon 5:5", "Mon Mon", "*-*-* *-*-*", "5:5 5:5", "Mon *-*-* 5:5 x", "Mon *-*-* 5:5 5:5", "Mon Tue *-*-* 5:5", "Mon *-*-* *-*-* 5:5",
		"mon", "MON", "Monday", "Mo", "M", "Mon,", ",Mon", "Mon,,Tue", "Mon, Tue", "Mon ,Tue", "Mon-Tue", "Mon..", "..Mon", "Mon...Tue", "Mon.Tue", "Mon..Tue..Wed", "Mon..Wed,", "MonTue", "1", "Mon/2", "*,Mon", "Mon..*",
		"Tue..Mon", "Sun..Sat", "Sun..Mon", "Mon,Sun..Mon", "Wed..Tue,Mon", "Mon..5", "Die",
		"*-0-*", "*-13-*", "*-*-0", "*-*-32", "1999-*-*", "2200-*-*", "0-*-*", "24-*-*", "9999-*-*", "24:0", "0:60", "0:0:60", "0:0:9999", "0:0:00060", "02000-1-1",
		"*-1..13-*", "*-0..5-*", "*-*-1..32", "2199..2200-*-*", "1999..2000-*-*", "20..24:0", "0:55..60",
		"5..3:0", "*-12..1-*", "2001..2000-*-*", "*..5:0", "5..*:0", "*..*:0", "*,:0", ",*:0", "5,,5:0", "5..:0", "..5:0", "5...6:0", "5.6:0", "5..6..7:0",
		"5/0:0", "5/00:0", "5/0000:0", "5/10000:0", "5/00001:0", "5/:0", "/5:0", "/:0", "5/5/5:0", "*/0:0", "*/*:0", "5/5..6:0", "5/-1:0", "5/+1:0", "5/ 1:0", "5/1,:0", "**:0", "*5:0", "5*:0", "~5:0", "5/x:0",
		"12345:0", "00000:0", "-1:0", "+1:0", "1.0:0", "0x1:0", "1e1:0", "1_0:0", " 1:0", "1 :0", "\u0665:0", "\uff15:0", "5:\xff", "5:5\xff", "\xff5:5",
		"1,2,3,4,5:0", "0:1,2,3,4,5", "0:0:1,1,1,1,1", "*,*,*,*,*-*-*", "*-1,1,1,1,1-*", "*-*-1,2,3,4,5",
		"OnCalendar", "now", "weekdays", "annually", "quarterly", "2026-11-18T05:05", "2026/11/18", "2026-11-18 5", "5h", "5:5:5.5", "5:5 UTC",
	} {
		checkRefused(t, s)
	}
}

func TestParseAroundMaxLine(t *testing.T) {
	for _, tail := range []string{"", " *-*-*", " 5:5", " *-*-* 5:5"} {
		for length := 395; length <= 405; length++ {
			// Four bytes an item; the odd bytes are digits of the last field.
			for zeros := range 4 {
				s := tail
				if s == " 5:5" || s == " *-*-* 5:5" {
					s = s[:len(s)-1] + strings.Repeat("0", zeros) + "5"
				}
				s = strings.Repeat("Tue,", (length-len(s)-3)/4) + "Mon" + s
				if len(s) <= 400 {
					checkParse(t, s)
					if _, ok := cal.Parse(s); !ok {
						t.Errorf("%d bytes are refused", len(s))
					}
					continue
				}
				checkRefused(t, s)
			}
		}
	}
	exact := strings.Repeat("Tue,", 98) + "Mon"
	if c, ok := cal.Parse(exact + " 05:5"); !ok || len(exact)+5 != 400 || !slices.Equal(c.Days, []int{1, 2}) {
		t.Errorf("Parse of 400 bytes: %v, %v", c, ok)
	}
	checkRefused(t, exact+" 05:05")
}

func TestParseEachByte(t *testing.T) {
	for c := range 256 {
		b := string([]byte{byte(c)})
		for _, s := range []string{
			b, "Mon" + b, b + "Mon", "Mon" + b + "Tue", "Mon" + b + "5:5", "Mon" + b + "*-*-*", "*-*-*" + b + "5:5", "*" + b + "*-*", "5" + b + "5", "5:5" + b + "5", "1" + b + ":0",
			b + ":0", "1" + b + "2:0", "1." + b + "2:0", "1.." + b + ":0", "*/" + b + ":0", "*" + b + "2:0", "1,2" + b + "3:0", "M" + b + "n", "Mon." + b + "Tue", "dail" + b, "daily" + b,
		} {
			checkParse(t, s)
		}
	}
}

func TestParseNumbers(t *testing.T) {
	for field := range 6 {
		for n := range 10020 {
			for _, format := range []string{"%d", "%02d", "%04d", "%05d", "1/%d", "*/%02d", "2000/%04d", "2000..%d", "%d..59", "%d..%[1]d/7"} {
				texts := []string{"*", "*", "*", "*", "*", "*"}
				if n > 70 && n < 1990 && n%53 != 0 || n > 2210 && n < 9990 && n%211 != 0 {
					continue
				}
				texts[field] = fmt.Sprintf(format, n)
				checkParse(t, strings.Join(texts[:3], "-")+" "+strings.Join(texts[3:], ":"))
			}
		}
	}
}

func TestParseAllShortTexts(t *testing.T) {
	pieces := []string{" ", "*", "7", "2020", "-", "*-*-*", ":", "5:5", ",", "..", "/", "Mon", "Fri", "daily"}
	last := []string{""}
	for range 4 {
		var longer []string
		for _, s := range last {
			for _, piece := range pieces {
				longer = append(longer, s+piece)
			}
		}
		for _, s := range longer {
			checkParse(t, s)
		}
		last = longer
	}
}

// randomText returns a text near the form of an expression.
func randomText(random *rand.Rand) string {
	s := cal.Print(randomCal(random, 1+random.Intn(3)))
	words := strings.Split(s, " ")
	for range random.Intn(3) {
		i := random.Intn(len(words))
		if len(words) > 1 {
			words = slices.Delete(words, i, i+1)
		}
	}
	bytes := []byte(strings.Join(words, " "))
	const alphabet = "0123456789*,./-: MonTueWedFri\t\xff"
	for range random.Intn(4) {
		i := random.Intn(len(bytes) + 1)
		c := alphabet[random.Intn(len(alphabet))]
		switch random.Intn(3) {
		case 0:
			bytes = slices.Insert(bytes, i, c)
		case 1:
			if i < len(bytes) {
				bytes[i] = c
			}
		case 2:
			if i < len(bytes) {
				bytes = slices.Delete(bytes, i, i+1)
			}
		}
	}
	return string(bytes)
}

func TestParseRandomTexts(t *testing.T) {
	random := rand.New(rand.NewSource(7))
	accepted := 0
	for range 50000 {
		s := randomText(random)
		checkParse(t, s)
		if _, ok := cal.Parse(s); ok {
			accepted++
		}
	}
	if accepted < 10000 || accepted > 40000 {
		t.Errorf("%d of 50000 accepted: no fair choice", accepted)
	}
}

// P4.3

func TestPrintKnown(t *testing.T) {
	for s, want := range map[string]string{
		"Mon":                               "Mon *-*-* 00:00:00",
		"Sun,Mon":                           "Mon,Sun *-*-* 00:00:00",
		"Mon..Wed,Sat":                      "Mon,Tue,Wed,Sat *-*-* 00:00:00",
		"2026-1-2":                          "2026-01-02 00:00:00",
		"1:2":                               "*-*-* 01:02:00",
		"1:2:3":                             "*-*-* 01:02:03",
		"0010:0011:0012":                    "*-*-* 10:11:12",
		"*/5:*":                             "*-*-* */5:*:00",
		"1/0005:2/50:3/9999":                "*-*-* 01/5:02/50:03/9999",
		"1..9/3:09..10":                     "*-*-* 01..09/3:09..10:00",
		"2000..2010/0010-1,02,3..4,*/7-*,1": "2000..2010/10-01,02,03..04,*/7-*,01 00:00:00",
		"Fri..Sat 2199-12-31 23:59:59":      "Fri,Sat 2199-12-31 23:59:59",
	} {
		c, ok := cal.Parse(s)
		if got := cal.Print(c); !ok || got != want {
			t.Errorf("Print of %q = %q, want %q", s, got, want)
		}
	}
}

func checkPrint(t *testing.T, c api.Cal) {
	t.Helper()
	s := cal.Print(c)
	if s != printed(c) {
		t.Errorf("Print(%v) = %q, want %q", c, s, printed(c))
	}
	if got, ok := cal.Parse(s); !ok || !same(got, c) {
		t.Errorf("Parse(%q) = %v, %v, want %v", s, got, ok, c)
	}
}

func TestPrintEachNumber(t *testing.T) {
	for field := range 6 {
		for n := lows[field]; n <= highs[field]; n++ {
			for _, p := range []api.Part{
				{From: n, To: -1}, {From: n, To: n}, {From: n, To: highs[field]}, {From: lows[field], To: n}, {From: n, To: -1, Step: 1}, {From: n, To: n, Step: 9},
				{From: lows[field], To: n, Step: 10}, {From: n, To: -1, Step: 100}, {From: -1, To: -1, Step: n}, {From: -1, To: -1, Step: 9999},
			} {
				c := always()
				*listOf(&c, field) = []api.Part{p}
				checkPrint(t, c)
			}
		}
	}
}

func TestParseReversesPrint(t *testing.T) {
	for set := range 128 {
		c := always()
		for day := 1; day <= 7; day++ {
			if set>>(day-1)&1 == 1 {
				c.Days = append(c.Days, day)
			}
		}
		checkPrint(t, c)
	}
	random := rand.New(rand.NewSource(8))
	for i := range 50000 {
		checkPrint(t, randomCal(random, 1+i%6))
	}
	longest := always()
	longest.Days = []int{1, 2, 3, 4, 5, 6, 7}
	for field := range 6 {
		*listOf(&longest, field) = slices.Repeat([]api.Part{{From: highs[field], To: highs[field], Step: 9999}}, 4)
	}
	checkPrint(t, longest)
}

// General rules

// P0.1, P0.2: every call ends, and the zero Cal stands beside false.
func TestLongTexts(t *testing.T) {
	const many = 1 << 20
	for _, piece := range []string{" ", "0", "9", "*", ",", "Mon,", "Mon ", "daily", "*-", ":", "..", "/", "1..2/3,", "\x00", "\xff", "\n"} {
		for _, s := range []string{strings.Repeat(piece, many), strings.Repeat(piece, 400/len(piece)), "0:0" + strings.Repeat(piece, 300/len(piece)), strings.Repeat(piece, 300/len(piece)) + ":0"} {
			checkRefused(t, s)
		}
	}
	checkRefused(t, strings.Repeat("Mon,", many)+"Mon")
	checkRefused(t, strings.Repeat("0", many)+":0")
}

// P0.3: what Parse returns is new memory, and no two of its lists share any.
func TestParsedListsAreNew(t *testing.T) {
	for _, s := range []string{"weekly", "daily", "*:*:*", "Mon,Wed 2020-1,2,3-4 5:6", "Mon..Sun *-*-* *:1,2,3,4"} {
		first, second := parsed(t, s), parsed(t, s)
		for i := range first.Days[:cap(first.Days)] {
			first.Days[:cap(first.Days)][i] = 99
		}
		for field := range 6 {
			list := *listOf(&first, field)
			list = list[:cap(list)]
			for i := range list {
				list[i] = api.Part{From: field + 1, To: 98, Step: i + 1}
			}
		}
		for field := range 6 {
			list := *listOf(&first, field)
			list = list[:cap(list)]
			for i := range list {
				if list[i] != (api.Part{From: field + 1, To: 98, Step: i + 1}) {
					t.Errorf("%q: two lists share memory", s)
				}
			}
		}
		want, _ := expected(s)
		if third := parsed(t, s); !same(second, want) || !same(third, want) {
			t.Errorf("Parse(%q) is changed through an answer", s)
		}
	}
}
