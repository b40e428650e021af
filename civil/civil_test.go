package civil_test

import (
	"math"
	"math/big"
	"math/rand"
	"sync"
	"testing"

	"matins/api"
	"matins/civil"
)

// The limits are written out, so that the tests do not hang on package api alone.
const (
	maxTime = 6311433600
	allDays = 73049
)

// calendar returns the dates of all days in order, counted on day by day, so
// that it owes nothing to the formulas of the package.
func calendar() []api.Date {
	var dates []api.Date
	weekday := 6
	for year := 2000; year <= 2199; year++ {
		lengths := []int{31, 28, 31, 30, 31, 30, 31, 31, 30, 31, 30, 31}
		if (year-2000)%4 == 0 && year != 2100 {
			lengths[1] = 29
		}
		for i, length := range lengths {
			for day := 1; day <= length; day++ {
				dates = append(dates, api.Date{Year: year, Month: i + 1, Day: day, Weekday: weekday})
				weekday++
				if weekday == 8 {
					weekday = 1
				}
			}
		}
	}
	return dates
}

// at returns the date d at a time of day.
func at(d api.Date, hour, min, sec int) api.Date {
	d.Hour, d.Min, d.Sec = hour, min, sec
	return d
}

// check checks that t and d are one, in both directions.
func check(t *testing.T, n int, d api.Date) {
	t.Helper()
	if got, ok := civil.Of(n); !ok || got != d {
		t.Errorf("Of(%d) = %v, %v, want %v", n, got, ok, d)
	}
	if got, ok := civil.To(d); !ok || got != n {
		t.Errorf("To(%v) = %d, %v, want %d", d, got, ok, n)
	}
}

func checkNoTime(t *testing.T, d api.Date) {
	t.Helper()
	if n, ok := civil.To(d); ok || n != 0 {
		t.Errorf("To(%v) = %d, %v", d, n, ok)
	}
}

// P3.1

func TestLimits(t *testing.T) {
	if api.MaxTime != maxTime {
		t.Errorf("MaxTime %d", api.MaxTime)
	}
	if n := len(calendar()); n != allDays || n*86400 != maxTime {
		t.Errorf("%d days", n)
	}
}

func TestKnownDates(t *testing.T) {
	for _, x := range []struct {
		n int
		d api.Date
	}{
		{0, api.Date{Year: 2000, Month: 1, Day: 1, Weekday: 6}},
		{1, api.Date{Year: 2000, Month: 1, Day: 1, Sec: 1, Weekday: 6}},
		{59, api.Date{Year: 2000, Month: 1, Day: 1, Sec: 59, Weekday: 6}},
		{60, api.Date{Year: 2000, Month: 1, Day: 1, Min: 1, Weekday: 6}},
		{3599, api.Date{Year: 2000, Month: 1, Day: 1, Min: 59, Sec: 59, Weekday: 6}},
		{3600, api.Date{Year: 2000, Month: 1, Day: 1, Hour: 1, Weekday: 6}},
		{86399, api.Date{Year: 2000, Month: 1, Day: 1, Hour: 23, Min: 59, Sec: 59, Weekday: 6}},
		{86400, api.Date{Year: 2000, Month: 1, Day: 2, Weekday: 7}},
		{172800, api.Date{Year: 2000, Month: 1, Day: 3, Weekday: 1}},
		{31 * 86400, api.Date{Year: 2000, Month: 2, Day: 1, Weekday: 2}},
		{59 * 86400, api.Date{Year: 2000, Month: 2, Day: 29, Weekday: 2}},
		{60 * 86400, api.Date{Year: 2000, Month: 3, Day: 1, Weekday: 3}},
		{366*86400 - 1, api.Date{Year: 2000, Month: 12, Day: 31, Hour: 23, Min: 59, Sec: 59, Weekday: 7}},
		{366 * 86400, api.Date{Year: 2001, Month: 1, Day: 1, Weekday: 1}},
		{1<<31 - 1 - 946684800, api.Date{Year: 2038, Month: 1, Day: 19, Hour: 3, Min: 14, Sec: 7, Weekday: 2}},
		{4107542399 - 946684800, api.Date{Year: 2100, Month: 2, Day: 28, Hour: 23, Min: 59, Sec: 59, Weekday: 7}},
		{4107542400 - 946684800, api.Date{Year: 2100, Month: 3, Day: 1, Weekday: 1}},
		{maxTime - 86400, api.Date{Year: 2199, Month: 12, Day: 31, Weekday: 2}},
		{maxTime - 1, api.Date{Year: 2199, Month: 12, Day: 31, Hour: 23, Min: 59, Sec: 59, Weekday: 2}},
	} {
		check(t, x.n, x.d)
	}
}

func TestEachDay(t *testing.T) {
	for i, d := range calendar() {
		check(t, i*86400, d)
		check(t, i*86400+86399, at(d, 23, 59, 59))
	}
}

func TestEachSecondOfADay(t *testing.T) {
	dates := calendar()
	for _, i := range []int{0, 59, 365, 366, allDays / 2, allDays - 1} {
		n := i * 86400
		for hour := range 24 {
			for min := range 60 {
				for sec := range 60 {
					check(t, n, at(dates[i], hour, min, sec))
					n++
				}
			}
		}
	}
}

func TestRandomTimes(t *testing.T) {
	dates := calendar()
	random := rand.New(rand.NewSource(1))
	for range 100000 {
		i, hour, min, sec := random.Intn(allDays), random.Intn(24), random.Intn(60), random.Intn(60)
		check(t, i*86400+hour*3600+min*60+sec, at(dates[i], hour, min, sec))
	}
}

func TestOfRefusesWhatIsNoTime(t *testing.T) {
	for _, n := range []int{
		-1, -59, -60, -86399, -86400, -maxTime, 1 - maxTime, math.MinInt, math.MinInt + 1,
		maxTime, maxTime + 1, maxTime + 86400, 2 * maxTime, 1 << 40, math.MaxInt - 1, math.MaxInt,
	} {
		if d, ok := civil.Of(n); ok || d != (api.Date{}) {
			t.Errorf("Of(%d) = %v, %v", n, d, ok)
		}
	}
}

func TestToIgnoresTheWeekday(t *testing.T) {
	dates := calendar()
	for _, i := range []int{0, 1, 59, 366, 36583, 36584, allDays - 1} {
		for _, weekday := range []int{0, 1, 2, 3, 4, 5, 6, 7, 8, -1, 99, math.MinInt, math.MaxInt} {
			d := at(dates[i], 1, 2, 3)
			d.Weekday = weekday
			if n, ok := civil.To(d); !ok || n != i*86400+3723 {
				t.Errorf("To(%v) = %d, %v", d, n, ok)
			}
		}
	}
}

func TestToTakesOnlyDaysOfTheCalendar(t *testing.T) {
	index := map[[3]int]int{}
	for i, d := range calendar() {
		index[[3]int{d.Year, d.Month, d.Day}] = i
	}
	for year := 1895; year <= 2205; year++ {
		for month := -1; month <= 14; month++ {
			for day := -1; day <= 33; day++ {
				i, there := index[[3]int{year, month, day}]
				n, ok := civil.To(api.Date{Year: year, Month: month, Day: day, Sec: 7})
				if ok != there || ok && n != i*86400+7 || !ok && n != 0 {
					t.Errorf("To of %d-%d-%d: %d, %v", year, month, day, n, ok)
				}
			}
		}
	}
}

func TestToRefusesEachField(t *testing.T) {
	first := api.Date{Year: 2000, Month: 1, Day: 1}
	leap := api.Date{Year: 2004, Month: 2, Day: 29, Hour: 12, Min: 30, Sec: 30}
	last := api.Date{Year: 2199, Month: 12, Day: 31, Hour: 23, Min: 59, Sec: 59}
	for _, d := range []api.Date{first, leap, last} {
		for field := range 6 {
			for _, n := range []int{-2000, -60, -24, -1, 2200, 1 << 31} {
				bad := d
				*fieldOf(&bad, field) = n
				checkNoTime(t, bad)
			}
			// A product of a far number and the length of a unit may come
			// round to a small one; the right value is added to it as well.
			for _, n := range farNumbers() {
				bad, worse := d, d
				*fieldOf(&bad, field) = n
				checkNoTime(t, bad)
				*fieldOf(&worse, field) += n
				checkNoTime(t, worse)
			}
		}
		for field, n := range map[int]int{1: 13, 2: 32, 3: 24, 4: 60, 5: 60} {
			bad := d
			*fieldOf(&bad, field) = n
			checkNoTime(t, bad)
		}
		for _, field := range []int{0, 1, 2} {
			bad := d
			*fieldOf(&bad, field) = 0
			checkNoTime(t, bad)
		}
	}
}

func farNumbers() []int {
	far := []int{math.MinInt, math.MinInt + 1, math.MaxInt - 1, math.MaxInt}
	for shift := 32; shift < 63; shift++ {
		far = append(far, 1<<shift, -1<<shift)
	}
	return far
}

// fieldOf returns the place of a field: year, month, day, hour, minute, second.
func fieldOf(d *api.Date, field int) *int {
	return []*int{&d.Year, &d.Month, &d.Day, &d.Hour, &d.Min, &d.Sec}[field]
}

// No field lends to another one: the sum alone would be a time.
func TestToDoesNotCarry(t *testing.T) {
	for _, d := range []api.Date{
		{Year: 2001, Month: 0, Day: 1},
		{Year: 2001, Month: 13, Day: 1},
		{Year: 2001, Month: 2, Day: 29},
		{Year: 2001, Month: 4, Day: 31},
		{Year: 2001, Month: 5, Day: 0},
		{Year: 2001, Month: 1, Day: 1, Hour: 24},
		{Year: 2001, Month: 1, Day: 1, Hour: -1},
		{Year: 2001, Month: 1, Day: 1, Hour: 1, Min: -1},
		{Year: 2001, Month: 1, Day: 1, Hour: 1, Min: 60},
		{Year: 2001, Month: 1, Day: 1, Min: 1, Sec: -1},
		{Year: 2001, Month: 1, Day: 1, Min: 1, Sec: 60},
		{Year: 1999, Month: 12, Day: 31, Hour: 24},
		{Year: 1999, Month: 13, Day: 1},
		{Year: 2200, Month: 1, Day: 0},
		{Year: 2200, Month: 1, Day: 1},
		{Year: 1999, Month: 12, Day: 31, Hour: 23, Min: 59, Sec: 59},
		{},
	} {
		checkNoTime(t, d)
	}
}

func TestLeap(t *testing.T) {
	for year, want := range map[int]bool{
		2000: true, 2001: false, 2002: false, 2003: false, 2004: true, 2096: true, 2100: false, 2104: true,
		1600: true, 1700: false, 1800: false, 1900: false, 2200: false, 2300: false, 2400: true,
		0: true, 1: false, 2: false, 4: true, 100: false, 200: false, 400: true,
		-1: false, -2: false, -4: true, -100: false, -400: true, -404: true, -96: true,
		math.MinInt: true, math.MaxInt: false, math.MaxInt - 3: true,
	} {
		if got := civil.Leap(year); got != want {
			t.Errorf("Leap(%d) = %v", year, got)
		}
	}
}

// leap is the rule of P3.1 in numbers without a bound.
func leap(year int) bool {
	divisible := func(by int64) bool {
		return new(big.Int).Mod(big.NewInt(int64(year)), big.NewInt(by)).Sign() == 0
	}
	return divisible(4) && (!divisible(100) || divisible(400))
}

// someYears returns the years about the 200 ones, and far ones.
func someYears() []int {
	var years []int
	for year := -1300; year <= 3700; year++ {
		years = append(years, year)
	}
	for n := range 1000 {
		years = append(years, math.MinInt+n, math.MaxInt-n)
	}
	random := rand.New(rand.NewSource(2))
	for range 1000 {
		years = append(years, int(random.Uint64()), int(random.Uint64()>>2)/100*100, int(random.Uint64()>>2)/-100*100)
	}
	return years
}

func TestLeapOfManyYears(t *testing.T) {
	for _, year := range someYears() {
		if got := civil.Leap(year); got != leap(year) {
			t.Errorf("Leap(%d) = %v", year, got)
		}
	}
}

func TestDays(t *testing.T) {
	lengths := map[int]int{1: 31, 2: 28, 3: 31, 4: 30, 5: 31, 6: 30, 7: 31, 8: 31, 9: 30, 10: 31, 11: 30, 12: 31}
	for _, year := range someYears() {
		for month := -3; month <= 20; month++ {
			want := lengths[month]
			if month == 2 && leap(year) {
				want = 29
			}
			if got := civil.Days(year, month); got != want {
				t.Errorf("Days(%d, %d) = %d, want %d", year, month, got, want)
			}
		}
	}
}

func TestDaysOfNoMonth(t *testing.T) {
	for _, month := range []int{0, 13, -1, -2, -12, 14, 24, 1<<8 + 1, 1<<16 + 2, 1<<32 + 2, 1<<62 + 2, math.MinInt, math.MinInt + 2, math.MaxInt} {
		for _, year := range []int{2000, 2001, 2100, 0, -1, math.MinInt, math.MaxInt} {
			if got := civil.Days(year, month); got != 0 {
				t.Errorf("Days(%d, %d) = %d", year, month, got)
			}
		}
	}
}

// General rules

// P0.6: no product or sum comes round to a time.
func TestToDoesNotWrapAround(t *testing.T) {
	for _, d := range []api.Date{
		{Year: 2000, Month: 1, Day: 1, Hour: 1 << 60},
		{Year: 2000, Month: 1, Day: 1, Hour: -1 << 60},
		{Year: 2000, Month: 1, Day: 1, Hour: 1<<60 + 5},
		{Year: 2000, Month: 1, Day: 1, Min: 1 << 62},
		{Year: 2000, Month: 1, Day: 1, Min: 1<<62 + 5},
		{Year: 2000, Month: 1, Day: 1<<57 + 1},
		{Year: 2000, Month: 1, Day: math.MinInt},
		{Year: 2000, Month: 1, Day: 2, Sec: -86400},
		{Year: 2000, Month: 1, Day: math.MaxInt, Sec: math.MaxInt},
		{Year: 2000, Month: 1, Day: 1, Hour: math.MaxInt, Min: math.MaxInt, Sec: math.MaxInt},
		{Year: 2000, Month: math.MaxInt, Day: 1},
		{Year: 2000, Month: math.MinInt, Day: 1},
		{Year: math.MaxInt, Month: 2, Day: 29},
		{Year: math.MinInt, Month: 2, Day: 29},
		{Year: math.MinInt, Month: math.MinInt, Day: math.MinInt, Hour: math.MinInt, Min: math.MinInt, Sec: math.MinInt},
		{Year: math.MaxInt, Month: math.MaxInt, Day: math.MaxInt, Hour: math.MaxInt, Min: math.MaxInt, Sec: math.MaxInt},
	} {
		checkNoTime(t, d)
	}
}

// P0.1, P0.2: every call ends, and zero values stand beside false.
func TestRandomArguments(t *testing.T) {
	random := rand.New(rand.NewSource(3))
	number := func() int {
		return int(random.Uint64()) >> random.Intn(64)
	}
	for range 200000 {
		n := number()
		d, ok := civil.Of(n)
		if ok != (n >= 0 && n < maxTime) || !ok && d != (api.Date{}) {
			t.Errorf("Of(%d) = %v, %v", n, d, ok)
		}
		d = api.Date{Year: number(), Month: number(), Day: number(), Hour: number(), Min: number(), Sec: number(), Weekday: number()}
		if random.Intn(4) > 0 {
			d.Year = 1998 + random.Intn(204)
			d.Month, d.Day = random.Intn(14), random.Intn(33)
			d.Hour, d.Min, d.Sec = random.Intn(25)-random.Intn(2), random.Intn(61)-random.Intn(2), random.Intn(61)-random.Intn(2)
		}
		n, ok = civil.To(d)
		if !ok && n != 0 {
			t.Errorf("To(%v) = %d", d, n)
		}
		if !ok {
			continue
		}
		back, there := civil.Of(n)
		d.Weekday = back.Weekday
		if !there || back != d {
			t.Errorf("To(%v) = %d, of which is %v, %v", d, n, back, there)
		}
	}
}

// P0.5: a call answers the same whatever was called before it or is called beside it.
func TestCallsKeepNothing(t *testing.T) {
	var group sync.WaitGroup
	dates := calendar()
	for i := range 4 {
		group.Go(func() {
			for k := range dates {
				k = (k*7 + i*1000) % len(dates)
				check(t, k*86400+3723, at(dates[k], 1, 2, 3))
				d := dates[k]
				if want := d.Month == 2 && d.Day == 29; want && (!civil.Leap(d.Year) || civil.Days(d.Year, 2) != 29) {
					t.Errorf("no leap day in %d", d.Year)
				}
			}
		})
	}
	group.Wait()
}
