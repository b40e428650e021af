package cal

import (
	"slices"
	"strconv"
	"strings"

	"matins/api"
)

const (
	dateFields = 3
	timeFields = 3
	maxDigits  = 4
)

// What stands for a date, a time or a Sec field that is missing.
const (
	anyDate  = "*-*-*"
	midnight = "00:00:00"
	fullMin  = "00"
)

var dayNames = [7]string{"Mon", "Tue", "Wed", "Thu", "Fri", "Sat", "Sun"}

// separators has what stands before each field.
var separators = [fieldCount]string{"", "-", "-", " ", ":", ":"}

// Parse returns the calendar that s denotes, and whether s denotes one.
func Parse(s string) (api.Cal, bool) {
	if len(s) > api.MaxLine {
		return api.Cal{}, false
	}
	c, ok := parseExpression(fullForm(s))
	if !ok || !May(c) {
		return api.Cal{}, false
	}
	return c, true
}

// Print returns the canonical expression of c, or "" if c is not valid.
func Print(c api.Cal) string {
	if !May(c) {
		return ""
	}
	var b strings.Builder
	for i, day := range c.Days {
		if i > 0 {
			b.WriteByte(',')
		}
		b.WriteString(dayNames[day-1])
	}
	if len(c.Days) > 0 {
		b.WriteByte(' ')
	}
	for field, parts := range lists(c) {
		b.WriteString(separators[field])
		printField(&b, parts)
	}
	return b.String()
}

// fullForm returns the expression that the word s stands for, or s itself if
// it is not such a word.
func fullForm(s string) string {
	switch s {
	case "minutely":
		return "*-*-* *:*:00"
	case "hourly":
		return "*-*-* *:00:00"
	case "daily":
		return "*-*-* 00:00:00"
	case "weekly":
		return "Mon *-*-* 00:00:00"
	case "monthly":
		return "*-*-01 00:00:00"
	case "yearly":
		return "*-01-01 00:00:00"
	}
	return s
}

// parseExpression parses an expression that consists of weekdays, a date and
// a time. The calendar may be one that is not valid.
func parseExpression(s string) (api.Cal, bool) {
	words := strings.Split(s, " ")
	days, ok := parseDays(words[0])
	if ok {
		words = words[1:]
	}
	date, words := takeWord(words, "-", anyDate)
	time, words := takeWord(words, ":", midnight)
	if len(words) > 0 {
		return api.Cal{}, false
	}
	f, ok := parseFields(date, time)
	return api.Cal{
		Days: days, Year: f[yearField], Month: f[monthField], Day: f[dayField],
		Hour: f[hourField], Min: f[minField], Sec: f[secField],
	}, ok
}

// takeWord returns the first of the words, if it contains the separator, and
// the words behind it; otherwise it returns what stands for a missing word,
// and all words.
func takeWord(words []string, separator, missing string) (string, []string) {
	if len(words) > 0 && strings.Contains(words[0], separator) {
		return words[0], words[1:]
	}
	return missing, words
}

// parseDays returns the weekdays that a word names, ascending, and whether it
// has the form of weekdays.
func parseDays(word string) ([]int, bool) {
	var days []int
	for item := range strings.SplitSeq(word, ",") {
		from, to, isRange := strings.Cut(item, "..")
		if !isRange {
			to = from
		}
		first, last := dayOf(from), dayOf(to)
		if first == 0 || last < first {
			return nil, false
		}
		for day := first; day <= last; day++ {
			days = append(days, day)
		}
	}
	slices.Sort(days)
	return slices.Compact(days), true
}

// dayOf returns the number of the weekday with a name, or 0 if there is none.
func dayOf(name string) int {
	for i, known := range dayNames {
		if name == known {
			return i + 1
		}
	}
	return 0
}

// parseFields returns the parts of each field of a date and a time, and whether
// the two have the form of such.
func parseFields(date, time string) ([fieldCount][]api.Part, bool) {
	texts, clock := strings.Split(date, "-"), strings.Split(time, ":")
	if len(clock) == timeFields-1 {
		clock = append(clock, fullMin)
	}
	var fields [fieldCount][]api.Part
	if len(texts) != dateFields || len(clock) != timeFields {
		return fields, false
	}
	for i, text := range append(texts, clock...) {
		parts, ok := parseField(text)
		if !ok {
			return fields, false
		}
		fields[i] = parts
	}
	return fields, true
}

// parseField returns the parts of a field, and whether text has the form of
// one.
func parseField(text string) ([]api.Part, bool) {
	var parts []api.Part
	for item := range strings.SplitSeq(text, ",") {
		p, ok := parsePart(item)
		if !ok {
			return nil, false
		}
		parts = append(parts, p)
	}
	return parts, true
}

// parsePart returns the part that a text denotes, and whether it has the form
// of one.
func parsePart(text string) (api.Part, bool) {
	p := api.Part{From: none, To: none}
	text, stepText, hasStep := strings.Cut(text, "/")
	if hasStep {
		// What is not a number yields 0, which is not a Step either.
		p.Step, _ = parseNumber(stepText)
		if p.Step == 0 {
			return api.Part{}, false
		}
	}
	if text == "*" {
		return p, true
	}
	from, to, isRange := strings.Cut(text, "..")
	n, ok := parseNumber(from)
	if !ok {
		return api.Part{}, false
	}
	p.From = n
	if isRange {
		p.To, ok = parseNumber(to)
	}
	return p, ok
}

// parseNumber returns the number that text denotes, and whether it consists of
// as many digits as a number may have.
func parseNumber(text string) (int, bool) {
	if len(text) < 1 || len(text) > maxDigits {
		return 0, false
	}
	n := 0
	for i := range len(text) {
		if text[i] < '0' || text[i] > '9' {
			return 0, false
		}
		n = 10*n + int(text[i]-'0')
	}
	return n, true
}

// printField appends a field to b.
func printField(b *strings.Builder, parts []api.Part) {
	for i, p := range parts {
		if i > 0 {
			b.WriteByte(',')
		}
		printPart(b, p)
	}
}

// printPart appends a part to b.
func printPart(b *strings.Builder, p api.Part) {
	if p.From == none {
		b.WriteByte('*')
	} else {
		printNumber(b, p.From)
	}
	if p.To != none {
		b.WriteString("..")
		printNumber(b, p.To)
	}
	if p.Step > 0 {
		b.WriteByte('/')
		b.WriteString(strconv.Itoa(p.Step))
	}
}

// printNumber appends n to b with at least two digits. A valid year has four
// anyway.
func printNumber(b *strings.Builder, n int) {
	if n < 10 {
		b.WriteByte('0')
	}
	b.WriteString(strconv.Itoa(n))
}
