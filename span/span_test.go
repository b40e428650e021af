package span_test

import (
	"math"
	"math/big"
	"math/rand"
	"regexp"
	"strconv"
	"strings"
	"sync"
	"testing"

	"matins/api"
	"matins/span"
)

// The limits are written out, so that the tests do not hang on package api alone.
const (
	maxSpan = 6311433600
	forever = 1 << 40
)

var units = map[string]int64{
	"": 1, "s": 1, "sec": 1, "m": 60, "min": 60, "h": 3600, "hr": 3600,
	"d": 86400, "day": 86400, "w": 604800, "week": 604800,
}

// durations describes the texts of P2.1 independently of the package, but for
// the greatest sum and infinity.
var (
	durations = regexp.MustCompile(`^ *[0-9]{1,10}(s|sec|m|min|h|hr|d|day|w|week)?( +[0-9]{1,10}(s|sec|m|min|h|hr|d|day|w|week)?)* *$`)
	aWord     = regexp.MustCompile(`([0-9]+)([a-z]*)`)
)

// expected returns what Parse(s) is to return; its sum can't overflow.
func expected(s string) (int, bool) {
	if s == "infinity" {
		return forever, true
	}
	if !durations.MatchString(s) {
		return 0, false
	}
	sum := new(big.Int)
	for _, m := range aWord.FindAllStringSubmatch(s, -1) {
		n, _ := new(big.Int).SetString(m[1], 10)
		sum.Add(sum, n.Mul(n, big.NewInt(units[m[2]])))
	}
	if sum.Cmp(big.NewInt(maxSpan)) > 0 {
		return 0, false
	}
	return int(sum.Int64()), true
}

func checkParse(t *testing.T, s string, want int, wantOK bool) {
	t.Helper()
	if n, ok := span.Parse(s); n != want || ok != wantOK {
		t.Errorf("Parse(%.100q) = %d, %v, want %d, %v", s, n, ok, want, wantOK)
	}
}

// P2.1

func TestLimits(t *testing.T) {
	if api.MaxSpan != maxSpan || api.Forever != forever {
		t.Errorf("MaxSpan %d, Forever %d", api.MaxSpan, api.Forever)
	}
}

func TestParseSums(t *testing.T) {
	for _, x := range []struct {
		s string
		n int
	}{
		{"infinity", forever},
		{"0", 0}, {"0w", 0}, {"0 0s 0min", 0}, {"00", 0}, {"1", 1}, {"007", 7},
		{"90", 90}, {"90min", 5400}, {"25h", 90000}, {"10d", 864000},
		{"1d 2h 3min 4s", 93784}, {"4s 3min 2h 1d", 93784},
		{"1 1s 1sec 1m 1min 1h 1hr 1d 1day 1w 1week", 1389723},
		{"5 5 5", 15}, {"1min 1min", 120},
		{" 5", 5}, {"5 ", 5}, {"   5   ", 5}, {"1h    30min", 5400}, {"  1h  2h   3h    ", 21600},
	} {
		checkParse(t, x.s, x.n, true)
	}
}

func TestParseEachUnit(t *testing.T) {
	for unit, seconds := range units {
		for _, n := range []int{0, 1, 2, 9, 10, 59, 60, 365, 10435} {
			checkParse(t, strconv.Itoa(n)+unit, n*int(seconds), true)
		}
		for _, word := range []string{unit, unit + "5", "-5" + unit, "+5" + unit, "5" + unit + "x", "5" + unit + "5", "5 x" + unit, "5" + unit + ","} {
			n, ok := expected(word)
			checkParse(t, word, n, ok)
		}
	}
}

func TestParseDigits(t *testing.T) {
	for _, unit := range []string{"", "s", "min", "week"} {
		for length := 1; length <= 30; length++ {
			one := strings.Repeat("0", length-1) + "1" + unit
			zero := strings.Repeat("0", length) + unit
			if length > 10 {
				checkParse(t, one, 0, false)
				checkParse(t, zero, 0, false)
				checkParse(t, "1 "+one, 0, false)
				continue
			}
			checkParse(t, one, int(units[unit]), true)
			checkParse(t, zero, 0, true)
		}
	}
}

func TestParseAroundMaxSpan(t *testing.T) {
	for _, s := range []string{
		"6311433600", "6311433600s", "105190560min", "1753176h", "73049d", "10435w 4d",
		"6311433599 1", "1 6311433599", "73049d 0", "0w 73049d", "73048d 23h 59min 60s",
	} {
		checkParse(t, s, maxSpan, true)
	}
	for _, s := range []string{
		"6311433601", "6311433601s", "105190561m", "1753177hr", "73050day", "10436week",
		"6311433600 1", "1 6311433600", "73049d 1", "10435w 4d 1s", "9999999999", "9999999999w",
		"1099511627776", "9999999999w 9999999999w", "6311433600 0 6311433600",
	} {
		checkParse(t, s, 0, false)
	}
	checkParse(t, "6311433599", maxSpan-1, true)
}

func TestParseRefuses(t *testing.T) {
	for _, s := range []string{
		"", " ", "    ", "s", "min", "5 s", "5 min", "s5", "5x", "5ms", "5us", "5y", "5month", "5mins",
		"5secs", "5hour", "5hours", "5days", "5weeks", "5minute", "5S", "5Min", "5H", "5D", "5W",
		"-5", "+5", "- 5", "1.5h", ".5", "5.", "1,5", "1_000", "0x10", "5e3", "1h30min", "1h,2h", "5ss",
		"Infinity", "INFINITY", "infinity ", " infinity", "infinit", "infinityy", "5 infinity", "infinity 5",
		"infinity infinity", "5\t5", "\t5", "5\n", "5\r", "5\v5", "5\f5", "5\x00", "\x005", "5\u00a05", "5\u20035",
		"\u0665", "\uff15", "5\u017f", "5m\u0131n", "\xff", "5\xff",
		"12345678901", "00000000005", "99999999999999999999", "18446744073709551617",
		"5 x", "x 5", "5 5x 5", "5 5 x",
	} {
		checkParse(t, s, 0, false)
	}
}

func TestParseEachByte(t *testing.T) {
	for c := range 256 {
		b := string([]byte{byte(c)})
		for _, s := range []string{b, b + b, "5" + b, b + "5", "5" + b + "5", "5m" + b, "5" + b + "in"} {
			n, ok := expected(s)
			checkParse(t, s, n, ok)
		}
	}
}

func TestParseAllShortTexts(t *testing.T) {
	for _, s := range shortTexts() {
		n, ok := expected(s)
		checkParse(t, s, n, ok)
	}
}

func TestPrint(t *testing.T) {
	for _, x := range []struct {
		n int
		s string
	}{
		{0, "0"}, {1, "1s"}, {9, "9s"}, {10, "10s"}, {59, "59s"}, {60, "1min"}, {61, "1min 1s"},
		{119, "1min 59s"}, {120, "2min"}, {3599, "59min 59s"}, {3600, "1h"}, {3601, "1h 1s"}, {3660, "1h 1min"},
		{86399, "23h 59min 59s"}, {86400, "1d"}, {86401, "1d 1s"}, {86460, "1d 1min"}, {90000, "1d 1h"},
		{90060, "1d 1h 1min"}, {90061, "1d 1h 1min 1s"}, {93784, "1d 2h 3min 4s"},
		{604800, "7d"}, {864000, "10d"}, {8640000, "100d"}, {36000, "10h"}, {600, "10min"},
		{maxSpan - 1, "73048d 23h 59min 59s"}, {maxSpan, "73049d"}, {forever, "infinity"},
	} {
		if got := span.Print(x.n); got != x.s {
			t.Errorf("Print(%d) = %q, want %q", x.n, got, x.s)
		}
	}
}

func TestPrintWhatIsNoSpan(t *testing.T) {
	for _, n := range []int{
		-1, -60, -maxSpan, -forever, math.MinInt, math.MinInt + 1, maxSpan + 1, maxSpan + 60,
		forever - 1, forever + 1, 2 * forever, 1 << 41, math.MaxInt - 1, math.MaxInt,
	} {
		if got := span.Print(n); got != "" {
			t.Errorf("Print(%d) = %q", n, got)
		}
	}
}

// canonical matches the form of P2.1, but for the bounds of the numbers.
var canonical = regexp.MustCompile(`^(?:([1-9][0-9]*)d)?(?: ?([1-9][0-9]*)h)?(?: ?([1-9][0-9]*)min)?(?: ?([1-9][0-9]*)s)?$`)

func checkCanonical(t *testing.T, n int) {
	t.Helper()
	s := span.Print(n)
	if got, ok := span.Parse(s); !ok || got != n {
		t.Errorf("Parse(%q) = %d, %v, want %d", s, got, ok, n)
	}
	if n == 0 {
		return
	}
	m := canonical.FindStringSubmatch(s)
	if s == "" || m == nil || s != strings.TrimSpace(s) || strings.Contains(s, "  ") {
		t.Errorf("Print(%d) = %q is not canonical", n, s)
		return
	}
	for i, bound := range []int{maxSpan, 24, 60, 60} {
		if value, _ := strconv.Atoi(m[i+1]); value >= bound {
			t.Errorf("Print(%d) = %q: component %d", n, s, i)
		}
	}
	if count := len(strings.Fields(s)); count != strings.Count(s, " ")+1 || count > 4 {
		t.Errorf("Print(%d) = %q: %d components", n, s, count)
	}
}

func TestParseReversesPrint(t *testing.T) {
	for n := range 100000 {
		checkCanonical(t, n)
		checkCanonical(t, maxSpan-n)
	}
	random := rand.New(rand.NewSource(1))
	for range 100000 {
		checkCanonical(t, random.Intn(maxSpan+1))
	}
	if n, ok := span.Parse(span.Print(forever)); !ok || n != forever {
		t.Errorf("Parse(Print(Forever)) = %d, %v", n, ok)
	}
}

// P2.2

// expectedSum returns what Sum(a, b) is to return; its sum can't overflow.
func expectedSum(a, b int) int {
	x, y := big.NewInt(int64(a)), big.NewInt(int64(b))
	if x.Sign() < 0 {
		x.SetInt64(0)
	}
	if y.Sign() < 0 {
		y.SetInt64(0)
	}
	if x.Add(x, y).Cmp(big.NewInt(maxSpan)) > 0 {
		return forever
	}
	return int(x.Int64())
}

func TestSum(t *testing.T) {
	for _, x := range [][3]int{
		{0, 0, 0}, {1, 2, 3}, {0, 5, 5}, {86400, 3600, 90000},
		{maxSpan, 0, maxSpan}, {maxSpan - 1, 1, maxSpan}, {maxSpan / 2, maxSpan / 2, maxSpan},
		{maxSpan, 1, forever}, {maxSpan - 1, 2, forever}, {maxSpan, maxSpan, forever},
		{maxSpan/2 + 1, maxSpan / 2, forever},
		{maxSpan + 1, 0, forever}, {maxSpan + 1, -1, forever}, {maxSpan + 1, math.MinInt, forever},
		{forever, 0, forever}, {forever, 1, forever}, {forever, -1, forever}, {forever, -forever, forever},
		{forever, forever, forever}, {forever - 1, 0, forever}, {forever + 1, 0, forever},
		{-1, -1, 0}, {-5, 2, 2}, {-5, 0, 0}, {-1, maxSpan, maxSpan}, {math.MinInt, 7, 7},
		{math.MinInt, math.MinInt, 0}, {math.MinInt, math.MaxInt, forever},
		{math.MaxInt, math.MaxInt, forever}, {math.MaxInt, 1, forever}, {math.MaxInt, 0, forever},
		{math.MaxInt - maxSpan, maxSpan, forever},
	} {
		for _, y := range [][2]int{{x[0], x[1]}, {x[1], x[0]}} {
			if got := span.Sum(y[0], y[1]); got != x[2] {
				t.Errorf("Sum(%d, %d) = %d, want %d", y[0], y[1], got, x[2])
			}
		}
	}
}

func TestSumOfAllEdges(t *testing.T) {
	var edges []int
	for _, n := range []int{0, 60, maxSpan / 2, maxSpan, forever - maxSpan, forever, 1 << 62} {
		for d := -2; d <= 2; d++ {
			edges = append(edges, n+d, -n+d)
		}
	}
	edges = append(edges, math.MinInt, math.MinInt+1, math.MaxInt-1, math.MaxInt)
	for _, a := range edges {
		for _, b := range edges {
			if got, want := span.Sum(a, b), expectedSum(a, b); got != want {
				t.Errorf("Sum(%d, %d) = %d, want %d", a, b, got, want)
			}
		}
	}
}

func TestSumOfRandomNumbers(t *testing.T) {
	random := rand.New(rand.NewSource(2))
	for range 100000 {
		a := int(random.Uint64()) >> random.Intn(64)
		b := int(random.Uint64()) >> random.Intn(64)
		if got, want := span.Sum(a, b), expectedSum(a, b); got != want {
			t.Errorf("Sum(%d, %d) = %d, want %d", a, b, got, want)
		}
	}
}

// General rules

// P0.1, P0.2, P0.6: every call ends, no sum overflows, and 0 stands beside false.
func TestLongTexts(t *testing.T) {
	const many = 1 << 20
	for _, x := range []struct {
		s  string
		n  int
		ok bool
	}{
		{strings.Repeat(" ", many), 0, false},
		{strings.Repeat("0", many), 0, false},
		{strings.Repeat("9", many), 0, false},
		{strings.Repeat("\x00", many), 0, false},
		{strings.Repeat("\xff", many), 0, false},
		{strings.Repeat("infinity", many), 0, false},
		{"1" + strings.Repeat("s", many), 0, false},
		{strings.Repeat(" ", many) + "5" + strings.Repeat(" ", many) + "5", 10, true},
		{strings.Repeat("0 ", many), 0, true},
		{strings.Repeat("1 ", many), many, true},
		{strings.Repeat("1s ", many) + "x", 0, false},
		{strings.Repeat("1h  ", many), 3600 * many, true},
		{strings.Repeat("1d ", many), 0, false},
		{strings.Repeat("9999999999w ", many), 0, false},
	} {
		checkParse(t, x.s, x.n, x.ok)
	}
}

// P0.6: no number of words makes the sum come round to a span again.
func TestParseDoesNotWrapAround(t *testing.T) {
	const most = 9999999999 * 604800
	whole := new(big.Int).Lsh(big.NewInt(1), 64)
	count, rest := new(big.Int).DivMod(whole, big.NewInt(most), new(big.Int))
	words := strings.Repeat("9999999999w ", int(count.Int64()))
	weeks := strconv.FormatInt(rest.Int64()/604800, 10)
	for more := range int64(10) {
		checkParse(t, words+weeks+"w "+strconv.FormatInt(rest.Int64()%604800+more, 10)+"s", 0, false)
	}
}

// P0.5: a call answers the same whatever was called before it or is called beside it.
func TestCallsKeepNothing(t *testing.T) {
	var group sync.WaitGroup
	texts := shortTexts()
	for i := range 4 {
		group.Go(func() {
			for k := range texts {
				s := texts[(k*7+i*1000)%len(texts)]
				want, wantOK := expected(s)
				if n, ok := span.Parse(s); n != want || ok != wantOK {
					t.Errorf("Parse(%q) = %d, %v", s, n, ok)
				}
				if n, ok := span.Parse(span.Print(k)); !ok || n != k {
					t.Errorf("Parse(Print(%d)) = %d, %v", k, n, ok)
				}
				if n := span.Sum(k, i); n != k+i {
					t.Errorf("Sum(%d, %d) = %d", k, i, n)
				}
			}
		})
	}
	group.Wait()
}

// shortTexts returns all texts of up to four of the pieces that matter to spans.
func shortTexts() []string {
	pieces := []string{" ", "0", "7", "99999", "s", "sec", "m", "min", "h", "hr", "d", "day", "w", "week", "-", "\t", "infinity"}
	texts := []string{""}
	last := texts
	for range 4 {
		var longer []string
		for _, s := range last {
			for _, piece := range pieces {
				longer = append(longer, s+piece)
			}
		}
		texts = append(texts, longer...)
		last = longer
	}
	return texts
}
