package cal_test

import (
	"math"
	"math/rand"
	"slices"
	"sync"
	"testing"
	"time"

	"matins/api"
	"matins/cal"
	"matins/civil"
)

// The limits are written out, so that the tests do not hang on package api alone.
const (
	maxTime = 6311433600
	allDays = 73049
)

// The ranges of the fields: Year, Month, Day, Hour, Min, Sec.
var (
	lows  = [6]int{2000, 1, 1, 0, 0, 0}
	highs = [6]int{2199, 12, 31, 23, 59, 59}
)

// listOf returns the place of a field's list.
func listOf(c *api.Cal, field int) *[]api.Part {
	return []*[]api.Part{&c.Year, &c.Month, &c.Day, &c.Hour, &c.Min, &c.Sec}[field]
}

func every() []api.Part {
	return []api.Part{{From: -1, To: -1}}
}

func one(n int) []api.Part {
	return []api.Part{{From: n, To: -1}}
}

// always returns the calendar that denotes every time.
func always() api.Cal {
	return api.Cal{Year: every(), Month: every(), Day: every(), Hour: every(), Min: every(), Sec: every()}
}

// valid is P4.1, told anew.
func valid(c api.Cal) bool {
	for i, day := range c.Days {
		if day < 1 || day > 7 || i > 0 && day <= c.Days[i-1] {
			return false
		}
	}
	for field := range 6 {
		parts := *listOf(&c, field)
		if len(parts) == 0 || len(parts) > 4 {
			return false
		}
		for _, p := range parts {
			whole := p.From == -1 && p.To == -1
			from := p.From >= lows[field] && p.From <= highs[field]
			to := p.To == -1 || p.To >= lows[field] && p.To <= highs[field] && p.To >= p.From
			if !whole && !(from && to) || p.Step < 0 || p.Step > 9999 {
				return false
			}
		}
	}
	return true
}

// denoted returns the numbers of a field that valid parts denote, found by
// counting.
func denoted(field int, parts []api.Part) map[int]bool {
	set := map[int]bool{}
	for _, p := range parts {
		var first, last int
		if p.From == -1 {
			first, last = lows[field], highs[field]
		} else if p.To >= 0 {
			first, last = p.From, p.To
		} else if p.Step > 0 {
			first, last = p.From, highs[field]
		} else {
			first, last = p.From, p.From
		}
		wait := 0
		for n := first; n <= last; n++ {
			if wait == 0 {
				set[n] = true
				wait = max(p.Step, 1)
			}
			wait--
		}
	}
	return set
}

// seconds returns the time of a date.
func seconds(t *testing.T, year, month, day, hour, min, sec int) int {
	t.Helper()
	n, ok := civil.To(api.Date{Year: year, Month: month, Day: day, Hour: hour, Min: min, Sec: sec})
	if !ok {
		t.Fatalf("no time %d-%d-%d %d:%d:%d", year, month, day, hour, min, sec)
	}
	return n
}

// parsed returns the calendar of an expression.
func parsed(t *testing.T, s string) api.Cal {
	t.Helper()
	c, ok := cal.Parse(s)
	if !ok {
		t.Fatalf("Parse(%q) refuses", s)
	}
	return c
}

func checkMay(t *testing.T, c api.Cal, want bool) {
	t.Helper()
	if cal.May(c) != want || valid(c) != want {
		t.Errorf("May(%v) = %v, want %v", c, cal.May(c), want)
	}
}

func checkNext(t *testing.T, c api.Cal, after, want int, wantOK bool) {
	t.Helper()
	if n, ok := cal.Next(c, after); n != want || ok != wantOK {
		t.Errorf("Next(%q, %d) = %d, %v, want %d, %v", cal.Print(c), after, n, ok, want, wantOK)
	}
}

// P4.1

func TestLimits(t *testing.T) {
	if api.MaxTime != maxTime || api.MaxLine != 400 {
		t.Errorf("MaxTime %d, MaxLine %d", api.MaxTime, api.MaxLine)
	}
}

func TestMayDays(t *testing.T) {
	for set := range 128 {
		c := always()
		for day := 1; day <= 7; day++ {
			if set>>(day-1)&1 == 1 {
				c.Days = append(c.Days, day)
			}
		}
		checkMay(t, c, true)
	}
	for _, days := range [][]int{
		{0}, {8}, {-1}, {math.MinInt}, {math.MaxInt}, {0, 1}, {7, 8}, {1, 1}, {7, 7}, {2, 1}, {1, 3, 2}, {1, 3, 3},
		{1, 2, 3, 4, 5, 6, 7, 8}, {1, 2, 3, 4, 5, 6, 7, 7}, {7, 6, 5, 4, 3, 2, 1}, {1, 9, 2}, {1, 1 << 32}, make([]int, 1<<20),
	} {
		c := always()
		c.Days = days
		checkMay(t, c, false)
	}
	c := always()
	c.Days = []int{}
	checkMay(t, c, true)
}

func TestMayCountsParts(t *testing.T) {
	for field := range 6 {
		for _, count := range []int{0, 1, 2, 3, 4, 5, 6, 100, 1 << 20} {
			c := always()
			*listOf(&c, field) = slices.Repeat(one(highs[field]), count)
			checkMay(t, c, count >= 1 && count <= 4)
		}
		c := always()
		*listOf(&c, field) = nil
		checkMay(t, c, false)
	}
	checkMay(t, api.Cal{}, false)
	checkMay(t, api.Cal{Days: []int{1}}, false)
}

// edges returns the numbers around those that matter in a field.
func edges(field int) []int {
	all := []int{math.MinInt, math.MinInt + 1, -1 << 32, 1<<32 - 1, 1<<32 + 1, math.MaxInt - 1, math.MaxInt}
	for _, n := range []int{0, lows[field], (lows[field] + highs[field]) / 2, highs[field]} {
		all = append(all, n-2, n-1, n, n+1, n+2)
	}
	return all
}

func TestMayEachPart(t *testing.T) {
	for field := range 6 {
		for _, from := range edges(field) {
			for _, to := range edges(field) {
				for _, step := range []int{math.MinInt, -2, -1, 0, 1, 2, 59, 9998, 9999, 10000, 10001, 1 << 32, math.MaxInt} {
					c := always()
					p := api.Part{From: from, To: to, Step: step}
					*listOf(&c, field) = []api.Part{p}
					checkMay(t, c, valid(c))
					// Every part of a list counts, wherever it stands.
					*listOf(&c, field) = append(slices.Repeat(every(), 3), p)
					checkMay(t, c, valid(c))
					*listOf(&c, field) = append([]api.Part{p}, every()...)
					checkMay(t, c, valid(c))
				}
			}
		}
	}
}

func TestMayKnownParts(t *testing.T) {
	for _, x := range []struct {
		field int
		p     api.Part
		want  bool
	}{
		{0, api.Part{From: 2000, To: 2199, Step: 9999}, true}, {0, api.Part{From: 1999, To: -1}, false}, {0, api.Part{From: 2200, To: -1}, false},
		{0, api.Part{From: 2199, To: 2200}, false}, {0, api.Part{From: 0, To: -1}, false}, {0, api.Part{From: 2199, To: 2199}, true},
		{1, api.Part{From: 0, To: -1}, false}, {1, api.Part{From: 1, To: 12}, true}, {1, api.Part{From: 1, To: 13}, false}, {1, api.Part{From: 13, To: -1}, false},
		{2, api.Part{From: 0, To: 5}, false}, {2, api.Part{From: 31, To: 31}, true}, {2, api.Part{From: 32, To: -1}, false},
		{3, api.Part{From: 0, To: -1}, true}, {3, api.Part{From: 23, To: -1}, true}, {3, api.Part{From: 24, To: -1}, false}, {3, api.Part{From: 0, To: 0}, true},
		{4, api.Part{From: 59, To: -1}, true}, {4, api.Part{From: 60, To: -1}, false}, {5, api.Part{From: 59, To: -1}, true}, {5, api.Part{From: 60, To: -1}, false},
		{5, api.Part{From: 5, To: 4}, false}, {5, api.Part{From: 5, To: 5}, true}, {5, api.Part{From: 5, To: 60}, false}, {5, api.Part{From: 5, To: 0}, false},
		{5, api.Part{From: -1, To: -1, Step: 9999}, true}, {5, api.Part{From: -1, To: -1, Step: 10000}, false}, {5, api.Part{From: -1, To: -1, Step: -1}, false},
		{5, api.Part{From: -1, To: 5}, false}, {5, api.Part{From: -2, To: -1}, false}, {5, api.Part{From: -2, To: -2}, false}, {5, api.Part{From: 5, To: -2}, false},
	} {
		c := always()
		*listOf(&c, x.field) = []api.Part{x.p}
		checkMay(t, c, x.want)
	}
}

// numbersOf returns the numbers of a field that Match takes.
func numbersOf(t *testing.T, c api.Cal, field int) []int {
	var numbers []int
	for n := lows[field]; n <= highs[field]; n++ {
		at := [6]int{2000, 1, 1, 0, 0, 0}
		at[field] = n
		if cal.Match(c, seconds(t, at[0], at[1], at[2], at[3], at[4], at[5])) {
			numbers = append(numbers, n)
		}
	}
	return numbers
}

func TestKnownSets(t *testing.T) {
	for _, x := range []struct {
		field int
		parts []api.Part
		want  []int
	}{
		{1, every(), []int{1, 2, 3, 4, 5, 6, 7, 8, 9, 10, 11, 12}},
		{1, []api.Part{{From: -1, To: -1, Step: 5}}, []int{1, 6, 11}},
		{1, []api.Part{{From: -1, To: -1, Step: 1}}, []int{1, 2, 3, 4, 5, 6, 7, 8, 9, 10, 11, 12}},
		{1, []api.Part{{From: -1, To: -1, Step: 11}}, []int{1, 12}},
		{1, []api.Part{{From: -1, To: -1, Step: 12}}, []int{1}},
		{1, []api.Part{{From: -1, To: -1, Step: 9999}}, []int{1}},
		{1, one(4), []int{4}}, {1, one(1), []int{1}}, {1, one(12), []int{12}},
		{1, []api.Part{{From: 4, To: -1, Step: 1}}, []int{4, 5, 6, 7, 8, 9, 10, 11, 12}},
		{1, []api.Part{{From: 4, To: -1, Step: 3}}, []int{4, 7, 10}},
		{1, []api.Part{{From: 4, To: -1, Step: 4}}, []int{4, 8, 12}},
		{1, []api.Part{{From: 4, To: -1, Step: 9}}, []int{4}},
		{1, []api.Part{{From: 12, To: -1, Step: 1}}, []int{12}},
		{1, []api.Part{{From: 4, To: 7}}, []int{4, 5, 6, 7}},
		{1, []api.Part{{From: 4, To: 4}}, []int{4}},
		{1, []api.Part{{From: 4, To: 4, Step: 2}}, []int{4}},
		{1, []api.Part{{From: 4, To: 9, Step: 2}}, []int{4, 6, 8}},
		{1, []api.Part{{From: 4, To: 8, Step: 2}}, []int{4, 6, 8}},
		{1, []api.Part{{From: 1, To: 12, Step: 6}}, []int{1, 7}},
		{1, []api.Part{{From: 9, To: -1}, {From: 2, To: 3}}, []int{2, 3, 9}},
		{1, []api.Part{{From: 2, To: 6, Step: 2}, {From: 3, To: 4}, {From: 4, To: -1}, {From: 11, To: -1, Step: 1}}, []int{2, 3, 4, 6, 11, 12}},
		{2, []api.Part{{From: -1, To: -1, Step: 10}}, []int{1, 11, 21, 31}},
		{3, []api.Part{{From: -1, To: -1, Step: 10}}, []int{0, 10, 20}},
		{3, []api.Part{{From: 0, To: 0}}, []int{0}},
		{4, []api.Part{{From: 7, To: -1, Step: 20}}, []int{7, 27, 47}},
		{5, []api.Part{{From: 0, To: -1, Step: 59}}, []int{0, 59}},
		{5, []api.Part{{From: -1, To: -1, Step: 60}}, []int{0}},
		{0, []api.Part{{From: 2010, To: -1, Step: 60}}, []int{2010, 2070, 2130, 2190}},
		{0, []api.Part{{From: -1, To: -1, Step: 99}}, []int{2000, 2099, 2198}},
		{0, one(2199), []int{2199}},
	} {
		c := always()
		*listOf(&c, x.field) = x.parts
		if got := numbersOf(t, c, x.field); !slices.Equal(got, x.want) {
			t.Errorf("field %d, %v: %v, want %v", x.field, x.parts, got, x.want)
		}
	}
}

func TestSetsOfAllParts(t *testing.T) {
	for field := range 6 {
		for from := lows[field] - 1; from <= highs[field]; from++ {
			for _, step := range []int{0, 1, 2, 3, 7, 12, 29, 58, 59, 60, 200, 9999} {
				for _, to := range []int{-1, from, from + 1, from + 13, highs[field] - 1, highs[field]} {
					p := api.Part{From: from, To: to, Step: step}
					if from < lows[field] {
						p.From, p.To = -1, -1
					}
					c := always()
					*listOf(&c, field) = []api.Part{p}
					if !valid(c) {
						continue
					}
					checkSet(t, c, field)
				}
			}
		}
	}
}

func TestSetsOfRandomLists(t *testing.T) {
	random := rand.New(rand.NewSource(1))
	for range 2000 {
		for field := range 6 {
			c := always()
			*listOf(&c, field) = randomParts(random, field)
			checkSet(t, c, field)
		}
	}
}

func checkSet(t *testing.T, c api.Cal, field int) {
	t.Helper()
	got, want := numbersOf(t, c, field), denoted(field, *listOf(&c, field))
	if len(got) != len(want) || slices.ContainsFunc(got, func(n int) bool { return !want[n] }) {
		t.Errorf("field %d, %v: %v, want %v", field, *listOf(&c, field), got, want)
	}
}

// randomParts returns valid parts of a field.
func randomParts(random *rand.Rand, field int) []api.Part {
	var parts []api.Part
	for range 1 + random.Intn(4) {
		p := api.Part{From: -1, To: -1}
		size := highs[field] - lows[field] + 1
		if random.Intn(4) > 0 {
			p.From = lows[field] + random.Intn(size)
			if random.Intn(2) == 0 {
				p.To = p.From + random.Intn(highs[field]-p.From+1)
			}
		}
		if p.From != -1 && p.To == -1 && random.Intn(3) > 0 {
			parts = append(parts, p)
			continue
		}
		switch random.Intn(4) {
		case 0:
			p.Step = 1 + random.Intn(10)
		case 1:
			p.Step = 1 + random.Intn(size+1)
		case 2:
			p.Step = 1 + random.Intn(9999)
		}
		parts = append(parts, p)
	}
	return parts
}

// randomCal returns a valid calendar; the share of fields that are not every
// number is one in thin.
func randomCal(random *rand.Rand, thin int) api.Cal {
	c := always()
	for field := range 6 {
		if random.Intn(thin) == 0 {
			*listOf(&c, field) = randomParts(random, field)
		}
	}
	if random.Intn(2) == 0 {
		for day := 1; day <= 7; day++ {
			if random.Intn(3) == 0 {
				c.Days = append(c.Days, day)
			}
		}
	}
	return c
}

// P4.4

// matches is P4.4, told anew.
func matches(c api.Cal, n int) bool {
	d, ok := civil.Of(n)
	if !ok || !valid(c) {
		return false
	}
	for field, value := range [6]int{d.Year, d.Month, d.Day, d.Hour, d.Min, d.Sec} {
		if !denoted(field, *listOf(&c, field))[value] {
			return false
		}
	}
	return len(c.Days) == 0 || slices.Contains(c.Days, d.Weekday)
}

func TestMatchNeedsEachField(t *testing.T) {
	at := seconds(t, 2026, 11, 18, 9, 30, 15) // A Wednesday.
	exact := api.Cal{Days: []int{3}, Year: one(2026), Month: one(11), Day: one(18), Hour: one(9), Min: one(30), Sec: one(15)}
	if !cal.Match(exact, at) || !cal.Match(always(), at) {
		t.Errorf("Match(%v, %d)", exact, at)
	}
	for field := range 6 {
		c, other := exact, always()
		wrong := one((*listOf(&exact, field))[0].From + 1)
		*listOf(&c, field), *listOf(&other, field) = wrong, wrong
		if cal.Match(c, at) || cal.Match(other, at) {
			t.Errorf("Match(%v, %d)", c, at)
		}
	}
	for days := range 8 {
		c := always()
		c.Days = nil
		if days > 0 {
			c.Days = []int{days}
		}
		if got := cal.Match(c, at); got != (days == 0 || days == 3) {
			t.Errorf("Match with day %d: %v", days, got)
		}
	}
	many := always()
	many.Days = []int{1, 3, 7}
	if !cal.Match(many, at) || cal.Match(many, at+86400) || !cal.Match(many, at+4*86400) {
		t.Error("Match with three days")
	}
}

func TestMatchWhatIsNoTime(t *testing.T) {
	for _, n := range []int{0, 1, maxTime - 1} {
		if !cal.Match(always(), n) {
			t.Errorf("Match of %d", n)
		}
	}
	for _, n := range []int{-1, -60, -86400, -maxTime, math.MinInt, maxTime, maxTime + 86400, 1 << 40, math.MaxInt} {
		if cal.Match(always(), n) {
			t.Errorf("Match of %d", n)
		}
	}
}

func TestMatchAndNextOfRandomCalendars(t *testing.T) {
	random := rand.New(rand.NewSource(2))
	for i := range 8000 {
		c := randomCal(random, 1+i%6)
		n := random.Intn(maxTime)
		if got, want := cal.Match(c, n), matches(c, n); got != want {
			t.Errorf("Match(%v, %d) = %v", c, n, got)
		}
		next, ok := cal.Next(c, n)
		if !ok {
			continue
		}
		if next <= n || !matches(c, next) || !cal.Match(c, next) {
			t.Errorf("Next(%v, %d) = %d", c, n, next)
		}
		if cal.Match(c, next-1) != matches(c, next-1) || cal.Match(c, next+1) != matches(c, next+1) {
			t.Errorf("Match(%v) about %d", c, next)
		}
	}
}

// plan has the times of a valid calendar as sets, to search through them.
type plan struct {
	days  [allDays]bool
	clock [86400]bool
	first int // of clock
}

func planOf(c api.Cal) *plan {
	p := &plan{first: -1}
	years, months, days := denoted(0, c.Year), denoted(1, c.Month), denoted(2, c.Day)
	for i := range allDays {
		d := time.Date(2000, 1, 1+i, 0, 0, 0, 0, time.UTC)
		weekday := (int(d.Weekday())+6)%7 + 1
		p.days[i] = years[d.Year()] && months[int(d.Month())] && days[d.Day()] &&
			(len(c.Days) == 0 || slices.Contains(c.Days, weekday))
	}
	hours, mins, secs := denoted(3, c.Hour), denoted(4, c.Min), denoted(5, c.Sec)
	for i := range 86400 {
		p.clock[i] = hours[i/3600] && mins[i/60%60] && secs[i%60]
		if p.clock[i] && p.first < 0 {
			p.first = i
		}
	}
	return p
}

// next finds the least time after the given one by trying all of them.
func (p *plan) next(after int) (int, bool) {
	if after >= maxTime-1 {
		return 0, false
	}
	n := max(after, -1) + 1
	if p.days[n/86400] {
		for s := n % 86400; s < 86400; s++ {
			if p.clock[s] {
				return n/86400*86400 + s, true
			}
		}
	}
	for i := n/86400 + 1; i < allDays; i++ {
		if p.days[i] {
			return i*86400 + p.first, true
		}
	}
	return 0, false
}

func checkPlan(t *testing.T, c api.Cal, p *plan, after int) {
	t.Helper()
	n, ok := p.next(after)
	checkNext(t, c, after, n, ok)
	if ok && (!cal.Match(c, n) || n-1 > after && cal.Match(c, n-1)) {
		t.Errorf("Match(%v) about %d", c, n)
	}
}

func TestNextOfRandomPlans(t *testing.T) {
	random := rand.New(rand.NewSource(3))
	for i := range 120 {
		c := randomCal(random, 1+i%5)
		p := planOf(c)
		for _, n := range []int{math.MinInt, -86400, -2, -1, 0, 1, maxTime - 86401, maxTime - 86400, maxTime - 2, maxTime - 1, maxTime, math.MaxInt} {
			checkPlan(t, c, p, n)
		}
		for range 50 {
			n := random.Intn(maxTime)
			checkPlan(t, c, p, n)
			checkPlan(t, c, p, n/86400*86400-1)
			checkPlan(t, c, p, n/86400*86400+p.first)
			// From one occurrence to the next.
			for range 4 {
				next, ok := p.next(n)
				checkPlan(t, c, p, n)
				if !ok {
					break
				}
				checkPlan(t, c, p, next-1)
				n = next
			}
		}
	}
}

func TestNextKnown(t *testing.T) {
	at := func(year, month, day, hour, min, sec int) int {
		return seconds(t, year, month, day, hour, min, sec)
	}
	for _, x := range []struct {
		s           string
		after, next int
	}{
		{"*:*:*", -1, 0}, {"*:*:*", 0, 1}, {"*:*:*", maxTime - 2, maxTime - 1}, {"*:*:*", math.MinInt, 0},
		{"minutely", -1, 0}, {"minutely", 0, 60}, {"minutely", 59, 60}, {"minutely", 60, 120},
		{"hourly", 0, 3600}, {"hourly", 3599, 3600}, {"hourly", at(2000, 12, 31, 23, 0, 0), at(2001, 1, 1, 0, 0, 0)},
		{"daily", 0, 86400}, {"daily", -5, 0}, {"weekly", 0, 2 * 86400}, {"weekly", 2 * 86400, 9 * 86400},
		{"monthly", 0, at(2000, 2, 1, 0, 0, 0)}, {"monthly", at(2000, 2, 1, 0, 0, 0), at(2000, 3, 1, 0, 0, 0)},
		{"monthly", at(2000, 12, 1, 0, 0, 0), at(2001, 1, 1, 0, 0, 0)},
		{"yearly", 0, at(2001, 1, 1, 0, 0, 0)}, {"yearly", at(2198, 1, 1, 0, 0, 0), at(2199, 1, 1, 0, 0, 0)},
		{"*-2-29", at(2096, 2, 29, 0, 0, 0), at(2104, 2, 29, 0, 0, 0)},
		{"Sun *-2-29", at(2004, 2, 29, 0, 0, 0), at(2032, 2, 29, 0, 0, 0)},
		{"*-*-31", at(2001, 1, 31, 0, 0, 0), at(2001, 3, 31, 0, 0, 0)},
		{"*-*-30", at(2001, 1, 30, 0, 0, 0), at(2001, 3, 30, 0, 0, 0)},
		{"*-4..6-31", at(2001, 5, 31, 0, 0, 0), at(2002, 5, 31, 0, 0, 0)},
		{"Fri *-*-13 23:59:59", at(2026, 11, 13, 23, 59, 58), at(2026, 11, 13, 23, 59, 59)},
		{"Fri *-*-13 23:59:59", at(2026, 11, 13, 23, 59, 59), at(2027, 8, 13, 23, 59, 59)},
		{"Mon..Fri 9:0", at(2026, 11, 20, 9, 0, 0), at(2026, 11, 23, 9, 0, 0)},
		{"Sat,Sun 8,20:15/30", at(2026, 11, 22, 8, 45, 0), at(2026, 11, 22, 20, 15, 0)},
		{"2199-12-31 23:59:59", math.MinInt, maxTime - 1},
		{"2199-12-31 23:59:59", maxTime - 2, maxTime - 1},
		{"22:59:59", at(2000, 1, 1, 22, 59, 59), at(2000, 1, 2, 22, 59, 59)},
		{"*:59:0", at(2000, 2, 29, 23, 59, 0), at(2000, 3, 1, 0, 59, 0)},
		{"12,3:30,10:45,5", at(2000, 1, 1, 3, 10, 45), at(2000, 1, 1, 3, 30, 5)},
		{"12,3:30,10:45,5", at(2000, 1, 1, 3, 30, 45), at(2000, 1, 1, 12, 10, 5)},
		{"12,3:30,10:45,5", at(2000, 1, 1, 12, 30, 45), at(2000, 1, 2, 3, 10, 5)},
		{"2030,2020-6,2-9,8 5:4:3", at(2020, 6, 9, 5, 4, 3), at(2030, 2, 8, 5, 4, 3)},
		{"2030,2020-6,2-9,8 5:4:3", at(2020, 2, 9, 5, 4, 3), at(2020, 6, 8, 5, 4, 3)},
		{"2030,2020-6,2-9,8 5:4:3", at(2026, 11, 18, 0, 0, 0), at(2030, 2, 8, 5, 4, 3)},
	} {
		checkNext(t, parsed(t, x.s), x.after, x.next, true)
	}
}

func TestNextOfNone(t *testing.T) {
	for _, x := range []struct {
		s     string
		after int
	}{
		{"*-2-30", -1}, {"*-2,4,6..9/3,11-31", -1}, {"2001-2-29", -1}, {"2100-2-29", -1}, {"Mon 2000-1-1", -1},
		{"2000-1-1", 0}, {"2000-1-1", 5}, {"2000-1-1 23:59:59", 86399}, {"2000..2010-*-*", 11 * 366 * 86400},
		{"daily", maxTime - 86400}, {"daily", maxTime - 1}, {"daily", maxTime}, {"daily", math.MaxInt},
		{"*:*:*", maxTime - 1}, {"*:*:*", maxTime}, {"*:*:*", maxTime + 86400}, {"*:*:*", math.MaxInt - 1}, {"*:*:*", math.MaxInt},
		{"2199-12-31 23:59:59", maxTime - 1}, {"Wed..Sun,Mon 2199-12-31", -1},
	} {
		checkNext(t, parsed(t, x.s), x.after, 0, false)
	}
}

func TestCalendarsThatAreNotValid(t *testing.T) {
	bad := []api.Cal{{}, {Days: []int{1, 2, 3, 4, 5, 6, 7}}}
	for field := range 6 {
		for _, parts := range [][]api.Part{
			nil, slices.Repeat(every(), 5), {{From: lows[field] - 1, To: highs[field]}}, {{From: lows[field], To: highs[field] + 1}},
			{{From: lows[field], To: highs[field], Step: -1}}, {{From: -1, To: -1, Step: 10000}}, {{From: -1, To: highs[field]}},
			{{From: highs[field], To: lows[field]}}, {{From: lows[field], To: -2}}, {{From: -1, To: -1}, {From: -1, To: -2}},
			{{From: math.MinInt, To: math.MaxInt, Step: math.MaxInt}}, {{From: math.MaxInt, To: -1}}, {{From: lows[field], To: -1, Step: math.MinInt}},
		} {
			c := always()
			*listOf(&c, field) = parts
			bad = append(bad, c)
		}
	}
	for _, days := range [][]int{{0}, {6, 6}, {6, 5}, {6, 8}, {0, 6}, {math.MinInt, 6}} {
		c := always()
		c.Days = days
		bad = append(bad, c)
	}
	for _, c := range bad {
		checkMay(t, c, false)
		if s := cal.Print(c); s != "" {
			t.Errorf("Print(%v) = %q", c, s)
		}
		for _, n := range []int{math.MinInt, -1, 0, 1, 86400, maxTime - 1, math.MaxInt} {
			if cal.Match(c, n) {
				t.Errorf("Match(%v, %d)", c, n)
			}
			checkNext(t, c, n, 0, false)
		}
	}
}

// General rules

// P0.1, P0.2: every call ends, whatever the numbers are.
func TestRandomArguments(t *testing.T) {
	random := rand.New(rand.NewSource(4))
	number := func(field int) int {
		if random.Intn(8) == 0 {
			return int(random.Uint64()) >> random.Intn(64)
		}
		return lows[field] - 2 + random.Intn(highs[field]-lows[field]+4)
	}
	for range 40000 {
		c := randomCal(random, 3)
		for range random.Intn(3) {
			field := random.Intn(6)
			list := *listOf(&c, field)
			list[random.Intn(len(list))] = api.Part{From: number(field), To: number(field), Step: number(5)}
		}
		if random.Intn(8) == 0 {
			c.Days = append(c.Days, number(5))
		}
		checkMay(t, c, valid(c))
		after := int(random.Uint64()) >> random.Intn(64)
		n, ok := cal.Next(c, after)
		if !ok && n != 0 || ok && (n <= after || !matches(c, n)) || !valid(c) && (ok || cal.Print(c) != "") {
			t.Errorf("Next(%v, %d) = %d, %v", c, after, n, ok)
		}
		if cal.Match(c, after) != matches(c, after) {
			t.Errorf("Match(%v, %d)", c, after)
		}
	}
}

// deep returns a copy of c that shares nothing with it, each list with room
// behind its end that holds what no call may touch.
func deep(c api.Cal) api.Cal {
	c.Days = append(slices.Clone(c.Days), 99, 98, 97)[:len(c.Days)]
	for field := range 6 {
		list := listOf(&c, field)
		*list = append(slices.Clone(*list), api.Part{From: 99}, api.Part{To: 98})[:len(*list)]
	}
	return c
}

// P0.3: no argument is changed, nor the room behind a list.
func TestArgumentsStay(t *testing.T) {
	random := rand.New(rand.NewSource(5))
	for range 2000 {
		c := deep(randomCal(random, 1))
		copy := deep(c)
		cal.May(c)
		cal.Print(c)
		cal.Match(c, random.Intn(maxTime))
		cal.Next(c, random.Intn(maxTime))
		same := slices.Equal(c.Days[:len(c.Days)+3], copy.Days[:len(c.Days)+3])
		for field := range 6 {
			a, b := *listOf(&c, field), *listOf(&copy, field)
			same = same && slices.Equal(a[:len(a)+2], b[:len(a)+2])
		}
		if !same {
			t.Errorf("%v became %v", copy, c)
		}
	}
}

// P0.4: a list that is nil is an empty one.
func TestNilLists(t *testing.T) {
	c := always()
	c.Days = nil
	d := always()
	d.Days = make([]int, 0, 5)
	for _, n := range []int{-1, 0, 86399, maxTime - 1} {
		a, okA := cal.Next(c, n)
		b, okB := cal.Next(d, n)
		if a != b || okA != okB || cal.Match(c, n) != cal.Match(d, n) || cal.Print(c) != cal.Print(d) {
			t.Errorf("nil and empty Days differ at %d", n)
		}
	}
	for field := range 6 {
		c, d := always(), always()
		*listOf(&c, field), *listOf(&d, field) = nil, make([]api.Part, 0, 4)
		checkMay(t, c, false)
		checkMay(t, d, false)
	}
}

// P0.5: a call answers the same whatever was called before it or is called beside it.
func TestCallsKeepNothing(t *testing.T) {
	random := rand.New(rand.NewSource(6))
	type answer struct {
		c           api.Cal
		text        string
		after, next int
		ok, match   bool
	}
	var answers []answer
	for range 2000 {
		a := answer{c: randomCal(random, 2), after: random.Intn(maxTime)}
		a.text = cal.Print(a.c)
		a.next, a.ok = cal.Next(a.c, a.after)
		a.match = cal.Match(a.c, a.after)
		answers = append(answers, a)
	}
	var group sync.WaitGroup
	for i := range 4 {
		group.Go(func() {
			for k := range answers {
				a := answers[(k*7+i*1000)%len(answers)]
				next, ok := cal.Next(a.c, a.after)
				c, parsed := cal.Parse(a.text)
				if next != a.next || ok != a.ok || cal.Match(a.c, a.after) != a.match || cal.Print(a.c) != a.text || !parsed || !same(c, a.c) {
					t.Errorf("another answer for %q", a.text)
				}
			}
		})
	}
	group.Wait()
}

// same compares calendars; a nil list is an empty one.
func same(a, b api.Cal) bool {
	equal := slices.Equal(a.Days, b.Days)
	for field := range 6 {
		equal = equal && slices.Equal(*listOf(&a, field), *listOf(&b, field))
	}
	return equal
}
