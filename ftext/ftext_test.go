package ftext

import (
	"fmt"
	"math"
	"regexp"
	"strconv"
	"strings"
	"testing"

	"scarp/api"
)

// nanBits is the NaN's pattern, written out so that a slip in a package's constants can't hide.
const nanBits = 0x7ff8000000000000

// known are patterns of numbers and their texts, by hand.
var known = []struct {
	bits uint64
	text string
}{
	{nanBits, "nan"},
	{0x7ff0000000000000, "inf"},
	{0xfff0000000000000, "-inf"},
	{0x0000000000000000, "0"},
	{0x8000000000000000, "-0"},

	{0x3ff0000000000000, "1p0"},
	{0xbff0000000000000, "-1p0"},
	{0xbfe8000000000000, "-1.8p-1"}, // -0.75
	{0x3ff8000000000000, "1.8p0"},
	{0x4000000000000000, "1p1"},
	{0x4024000000000000, "1.4p3"},               // 10
	{0x4023000000000000, "1.3p3"},               // 9.5
	{0x3fb999999999999a, "1.999999999999ap-4"},  // 0.1
	{0xbfb999999999999a, "-1.999999999999ap-4"}, // -0.1
	{0x3f50000000000000, "1p-10"},
	{0x46293e5939a08cea, "1.93e5939a08ceap99"}, // 1e30

	{0x3ff0000000000001, "1.0000000000001p0"},
	{0x3ff0000000000010, "1.000000000001p0"},
	{0x3ff0001000000000, "1.0001p0"},
	{0x3ff1020300000000, "1.10203p0"},
	{0x3fffffffffffffff, "1.fffffffffffffp0"},
	{0x3ffffffffffffff0, "1.ffffffffffffp0"},
	{0x3ff123456789abcd, "1.123456789abcdp0"},

	{0x7fefffffffffffff, "1.fffffffffffffp1023"}, // the greatest finite one
	{0xffefffffffffffff, "-1.fffffffffffffp1023"},
	{0x7fe0000000000000, "1p1023"},
	{0x0010000000000000, "1p-1022"}, // the smallest positive normal one
	{0x8010000000000000, "-1p-1022"},
	{0x0010000000000001, "1.0000000000001p-1022"},
	{0x001fffffffffffff, "1.fffffffffffffp-1022"},
	{0x0020000000000000, "1p-1021"},

	{0x000fffffffffffff, "0.fffffffffffffp-1022"}, // the greatest subnormal one
	{0x800fffffffffffff, "-0.fffffffffffffp-1022"},
	{0x0000000000000001, "0.0000000000001p-1022"}, // the smallest subnormal one
	{0x8000000000000001, "-0.0000000000001p-1022"},
	{0x0000000000000010, "0.000000000001p-1022"},
	{0x0008000000000000, "0.8p-1022"},
	{0x8008000000000000, "-0.8p-1022"},
	{0x0000100000000000, "0.01p-1022"},
}

// otherNaNs are patterns of NaNs that are not the NaN: signalling and quiet, of both signs.
var otherNaNs = []uint64{
	0x7ff0000000000001,
	0x7ff4000000000000,
	0x7ff7ffffffffffff,
	0x7ff8000000000001, // math.NaN's
	0x7fffffffffffffff,
	0xfff0000000000001,
	0xfff7ffffffffffff,
	0xfff8000000000000,
	0xffffffffffffffff,
}

// number builds one without the program.
func number(b uint64) float64 { return math.Float64frombits(b) }

// pattern looks at one without the program, so that zeros and NaNs are told apart.
func pattern(x float64) uint64 { return math.Float64bits(x) }

// walk calls f with numbers of every sign and exponent, no NaN among them: fractions with one bit set, with zeros at their end, and mixed ones, the same at each run.
func walk(f func(x float64)) {
	fracs := []uint64{0, 1<<52 - 1, 1<<52 - 16, 0xf000000000000, 0x0fff000000000, 0x5555555555555, 0x123456789abcd, 0x9876543210fed, 0x1020304050607}
	for i := range 52 {
		fracs = append(fracs, 1<<i)
	}
	state := uint64(1)
	for exp := range uint64(2048) {
		state = state*6364136223846793005 + 1442695040888963407
		for _, frac := range append(fracs, state>>12) {
			if exp < 2047 || frac == 0 {
				f(number(exp<<52 | frac))
				f(number(1<<63 | exp<<52 | frac))
			}
		}
	}
}

// textByFmt is what Text is to return for a finite number that is not zero, worked out from values by fmt.
func textByFmt(x float64) string {
	sign := ""
	if x < 0 {
		sign = "-"
	}
	lead, exp := 0, -1022
	frac := math.Ldexp(math.Abs(x), 1074) // of a subnormal number: an integer below 2^52
	if a := math.Abs(x); a >= 0x1p-1022 {
		half, e := math.Frexp(a)
		lead, exp = 1, e-1
		frac = (2*half - 1) * (1 << 52)
	}
	digits := fmt.Sprintf("%013x", uint64(frac))
	for strings.HasSuffix(digits, "0") {
		digits = digits[:len(digits)-1]
	}
	if digits != "" {
		digits = "." + digits
	}
	return fmt.Sprintf("%s%d%sp%d", sign, lead, digits, exp)
}

func TestP3_1TextKnown(t *testing.T) {
	for _, k := range known {
		if got := Text(number(k.bits)); got != k.text {
			t.Errorf("Text(%x) is %q, want %q", k.bits, got, k.text)
		}
	}
}

func TestP3_1TextOfOtherNaNs(t *testing.T) {
	for _, b := range otherNaNs {
		if got := Text(number(b)); got != "nan" {
			t.Errorf("Text of NaN %x is %q", b, got)
		}
	}
}

func TestP3_1TextOfEveryExponent(t *testing.T) {
	walk(func(x float64) {
		if x == 0 || math.IsInf(x, 0) {
			return
		}
		if got, want := Text(x), textByFmt(x); got != want {
			t.Errorf("Text(%x) is %q, want %q", pattern(x), got, want)
		}
	})
}

func TestP3_1ParseKnown(t *testing.T) {
	for _, k := range known {
		if x, code := Parse(k.text); code != api.OK || pattern(x) != k.bits {
			t.Errorf("Parse(%q) is %x, %d, want %x", k.text, pattern(x), code, k.bits)
		}
	}
}

// form is what the text of a finite number that is not zero looks like, but for the range of the exponent of a normal one.
var form = regexp.MustCompile(`^-?(1(\.[0-9a-f]{0,12}[1-9a-f])?p(0|-?[1-9][0-9]*)|0\.[0-9a-f]{0,12}[1-9a-f]p-1022)$`)

// parsed is what Parse is to return, as a pattern: by the form of a text and strconv's reading of it.
func parsed(s string) (uint64, api.Errno) {
	for _, k := range known[:5] {
		if s == k.text {
			return k.bits, api.OK
		}
	}
	if !form.MatchString(s) {
		return 0, api.ErrBad
	}
	_, tail, _ := strings.Cut(s, "p")
	if exp, err := strconv.Atoi(tail); err != nil || exp < -1022 || exp > 1023 {
		return 0, api.ErrBad
	}
	sign, rest := uint64(0), s
	if s[0] == '-' {
		sign, rest = 1<<63, s[1:]
	}
	x, err := strconv.ParseFloat("0x"+rest, 64)
	if err != nil {
		return 0, api.ErrBad
	}
	return sign | pattern(x), api.OK
}

func checkParse(t *testing.T, s string) {
	t.Helper()
	x, code := Parse(s)
	if want, wantCode := parsed(s); pattern(x) != want || code != wantCode {
		t.Errorf("Parse(%q) is %x, %d, want %x, %d", s, pattern(x), code, want, wantCode)
	}
}

// refused checks that Parse answers ErrBad and the number zero.
func refused(t *testing.T, s string) {
	t.Helper()
	if x, code := Parse(s); code != api.ErrBad || pattern(x) != 0 {
		t.Errorf("Parse(%q) is %x, %d, want 0, ErrBad", s, pattern(x), code)
	}
}

// wrong are texts that are no number's.
var wrong = []struct {
	what  string
	texts []string
}{
	{"parts missing", []string{
		"", "-", "1", "p", ".", "p0", "-p0", ".p0", "1p", "1p-", "-1", "1.8", ".8p0", "8p0", "1.8p", "0.8", "0.8p", "1-1", "1.8-1",
	}},
	{"a zero at the end of the fraction", []string{
		"1.80p0", "1.0p0", "1.00p0", "1.0000000000000p0", "-1.80p-1", "1.8000000000000p0", "1.80000000000000000000000p0",
		"0.80p-1022", "0.00000000000010p-1022",
	}},
	{"a point with no digit behind it", []string{
		"1.p0", "-1.p0", "0.p-1022", "1.", "1.p",
	}},
	{"a zero with an exponent or a point", []string{
		"0p0", "-0p0", "0p-1022", "0.0p-1022", "-0.0p-1022", "0.0000000000000p-1022", "0.", "0.0", "-0.0", "00", "-00",
	}},
	{"upper case", []string{
		"1.Fp0", "1.fFp0", "0.Fp-1022", "1.8P0", "1P0", "NaN", "NAN", "Nan", "Inf", "INF", "-Inf", "-INF",
	}},
	{"a sign too many", []string{
		"+1p0", "--1p0", "-+1p0", "+-1p0", "+0", "--0", "+inf", "--inf", "+nan", "-nan",
		"1p+1", "1p--1", "1p-+1", "1p+0", "1p-0", "1.8p+3", "-1.8p-0", "1.-8p0", "1.+8p0",
	}},
	{"a blank", []string{
		" ", " 1p0", "1p0 ", "1 p0", "1p 0", "1. 8p0", "1.8 p0", "- 1p0", "1p- 1", "1p0\n", "\t1p0", "1p0\x00", "1.8p0\r\n",
		" nan", "nan ", " inf", "inf ", "- inf", " 0", "0 ", "- 0",
	}},
	{"an exponent with zeros ahead", []string{
		"1p00", "1p01", "1p-00", "1p-01", "1p000", "1p01023", "1p-01022", "0.8p-01022", "1.8p-01",
	}},
	{"an exponent out of range", []string{
		"1p1024", "1p-1023", "-1p1024", "-1p-1023", "1.8p1024", "1p1025", "1p-1024", "1p2048", "1p-2048", "1p3072", "1p4096", "1p65536", "1p9999", "1p-9999",
		"1p2147483648", "1p9223372036854775807", "1p9223372036854775808", "1p-9223372036854775809", "1p18446744073709551616", "1p-18446744073709551616",
	}},
	{"a subnormal form with another exponent", []string{
		"0.8p-1021", "0.8p-1023", "0.8p0", "0.8p1", "0.8p1022", "0.8p1023", "0.8p-1074", "0.8p-102", "0.8p-10222",
		"0.fffffffffffffp-1021", "-0.8p-1021", "0.1p-1026",
	}},
	{"a fraction too long", []string{
		"1.00000000000001p0", "1.12345678901234p0", "1.fffffffffffff8p0", "0.00000000000001p-1022", "1.123456789abcd0p0", "1.11111111111111111111111111111p0",
	}},
	{"another digit ahead of the point", []string{
		"2p0", "2.8p0", "3.8p0", "9p0", "-2p0", "01p0", "02p0", "001p0", "10p0", "11p0", "00.8p-1022", "1fp0", "ap0", "fp0",
	}},
	{"something twice", []string{
		"1..8p0", "1.8.8p0", "1.8p0p0", "1pp0", "1.8p.0", "1p0.0", "1p1.8", "1p0p", "1p0-", "1p01p0", "nannan", "infinf",
	}},
	{"an underscore or a prefix", []string{
		"1_p0", "1._8p0", "1.8_p0", "1p1_0", "1.8_8p0", "_1p0", "0x1p0", "0x1.8p0", "1.0x8p0", "1p0x1", "0b1p0",
	}},
	{"no hexadecimal or decimal digit", []string{
		"1.gp0", "1.xp0", "1.:p0", "1./p0", "1.`p0", "1.@p0", "1,8p0", "1pa", "1p-a", "1pf", "1p:", "1p/", "1.8px",
		"1.\uff18p0", "1p\uff10", "\uff11p0", "1.8\uff500", "\u22121p0", "1p\u22121", "\xff", "1.\xffp0", "1p\xff",
	}},
	{"words", []string{
		"infinity", "-infinity", "in", "na", "i", "n", "infp0", "nanp0", "1.nan", "null", "zero", "-nan0", "inf0", "0inf",
	}},
	{"numbers as others write them", []string{
		"10", "0.5", "-1", "1.5", "1e0", "1.8e0", "1e10", "0x1.8p+00", "0x1p-1", "1.8p+00", "1.8p-01", "0x0.8p-1022", "0x1p-1074", "1p-1074", "1p-1030",
	}},
}

func TestP3_1ParseRefuses(t *testing.T) {
	for _, w := range wrong {
		t.Run(w.what, func(t *testing.T) {
			for _, s := range w.texts {
				refused(t, s)
			}
		})
	}
}

func TestP3_1ParseEveryExponent(t *testing.T) {
	for exp := -3000; exp <= 3000; exp++ {
		for _, head := range []string{"1", "-1", "1.8", "1.fffffffffffff", "0.8", "-0.0000000000001", "0", "-0", "0.0", "1.80"} {
			checkParse(t, fmt.Sprintf("%sp%d", head, exp))
		}
	}
}

// Among all the short texts are few that are a number's.
func TestP3_1ParseShortTexts(t *testing.T) {
	const letters = "0128.p-+af"
	var grow func(s string, size int)
	grow = func(s string, size int) {
		checkParse(t, s)
		if len(s) == size {
			return
		}
		for _, c := range letters {
			grow(s+string(c), size)
		}
	}
	grow("", 5)
	grow("1.8p", 8)
	grow("-1p-", 7)
	grow("0.8p-10", 10)
	grow("-0.8p-102", 11)
}

// One step away from a number's text stands hardly ever another one's.
func TestP3_1ParseTurnedTexts(t *testing.T) {
	var bytes []byte
	for c := range 256 {
		bytes = append(bytes, byte(c))
	}
	for _, k := range known {
		s := k.text
		for i := range len(s) + 1 {
			checkParse(t, s[:i])
			checkParse(t, s[i:])
			for _, c := range bytes {
				checkParse(t, s[:i]+string([]byte{c})+s[i:])
				if i < len(s) {
					checkParse(t, s[:i]+string([]byte{c})+s[i+1:])
				}
			}
			if i < len(s) {
				checkParse(t, s[:i]+s[i+1:])
			}
		}
		checkParse(t, s+s)
		checkParse(t, strings.ToUpper(s))
	}
}

func TestP3_1ParseLongTexts(t *testing.T) {
	const size = 1 << 20
	for _, c := range []string{"0", "1", "f", "-", ".", "p", " ", "1p0", "nan"} {
		long := strings.Repeat(c, size)
		refused(t, long)
		refused(t, "-"+long)
		refused(t, "1."+long+"p0")
		refused(t, "1p"+long)
		refused(t, "1p-"+long)
		refused(t, "0.8p-1022"+long)
	}
}

func integer(t *testing.T, x float64, want int) {
	t.Helper()
	if n, code := Int(x); n != want || code != api.OK {
		t.Errorf("Int(%v) is %d, %d, want %d", x, n, code, want)
	}
}

func noInteger(t *testing.T, x float64) {
	t.Helper()
	if n, code := Int(x); n != 0 || code != api.ErrBad {
		t.Errorf("Int(%v, bits %x) is %d, %d, want 0, ErrBad", x, pattern(x), n, code)
	}
}

func TestP3_2Int(t *testing.T) {
	integer(t, 0, 0)
	integer(t, math.Copysign(0, -1), 0)
	for n := 1; n <= 3000; n++ {
		integer(t, float64(n), n)
		integer(t, float64(-n), -n)
	}
	for i := range 54 {
		n := 1 << i
		for _, m := range []int{n - 1, n, n + 1, 3 * (n / 4)} {
			if m <= 1<<53 {
				integer(t, float64(m), m)
				integer(t, float64(-m), -m)
			}
		}
	}
}

func TestP3_2IntAtTheEnds(t *testing.T) {
	const end = 1 << 53
	for back := range 100 {
		integer(t, float64(end-back), end-back)
		integer(t, float64(back-end), back-end)
	}
	for ahead := 2; ahead < 200; ahead += 2 { // from the ends on only even ones are numbers
		noInteger(t, float64(end+ahead))
		noInteger(t, float64(-end-ahead))
	}
	noInteger(t, math.Nextafter(end, math.Inf(1)))
	noInteger(t, math.Nextafter(-end, math.Inf(-1)))
	integer(t, math.Nextafter(end, 0), end-1)
	integer(t, math.Nextafter(-end, 0), 1-end)
}

func TestP3_2IntRefuses(t *testing.T) {
	for _, x := range []float64{0.5, 1.5, 0.1, 1e-300, 1 << 54, 1 << 62, 1 << 63, 1 << 64, 1e19, 1e300, math.MaxFloat64, math.Inf(1), 0x1p-1022, 0x1p-1074, 1<<52 - 0.5, 1<<50 + 0.25, 1.0000000000000002, 0.9999999999999999} {
		noInteger(t, x)
		noInteger(t, -x)
	}
	for _, b := range append(otherNaNs, nanBits) {
		noInteger(t, number(b))
	}
}

func TestP3_2IntOfEveryExponent(t *testing.T) {
	walk(func(x float64) {
		if math.Abs(x) <= 1<<53 && math.Floor(x) == x {
			integer(t, x, int(int64(x)))
		} else {
			noInteger(t, x)
		}
	})
}

// rounded is what Round is to return for a finite number, by the numbers on both sides of it.
func rounded(x float64) float64 {
	a := math.Abs(x)
	low := math.Floor(a)
	switch part := a - low; {
	case part > 0.5, part == 0.5 && math.Mod(low, 2) == 1:
		low++
	}
	return math.Copysign(low, x)
}

func checkRound(t *testing.T, x, want float64) {
	t.Helper()
	if got := Round(x); pattern(got) != pattern(want) {
		t.Errorf("Round(%v, bits %x) is %v (%x), want %v", x, pattern(x), got, pattern(got), want)
	}
	if got := Round(-x); pattern(got) != pattern(-want) {
		t.Errorf("Round(%v) is %v (%x), want %v", -x, got, pattern(got), -want)
	}
}

func TestP3_2RoundKnown(t *testing.T) {
	for _, k := range [][2]float64{
		{2.5, 2}, {3.5, 4}, {0.5, 0}, {1.5, 2}, {4.5, 4}, {5.5, 6}, {0.3, 0}, {0.6, 1}, {0.25, 0}, {0.75, 1}, {1, 1}, {7, 7}, {2.4, 2}, {2.6, 3},
		{0.49999999999999994, 0}, {0.5000000000000001, 1},
		{1.4999999999999998, 1}, {1.5000000000000002, 2},
		{2.4999999999999996, 2}, {2.5000000000000004, 3},
		{3.4999999999999996, 3}, {3.5000000000000004, 4},
		{1e300, 1e300}, {math.MaxFloat64, math.MaxFloat64}, {1 << 52, 1 << 52}, {1<<52 + 1, 1<<52 + 1}, {1 << 53, 1 << 53}, {1<<53 - 1, 1<<53 - 1}, {1 << 63, 1 << 63},
		{1<<52 - 0.5, 1 << 52}, {1<<52 - 1.5, 1<<52 - 2}, {1<<51 + 0.5, 1 << 51}, {1<<51 + 1.5, 1<<51 + 2},
		{0x1p-1022, 0}, {0x1p-1074, 0}, {number(1<<52 - 1), 0},
	} {
		checkRound(t, k[0], k[1])
	}
}

func TestP3_2RoundKeeps(t *testing.T) {
	for _, k := range known[1:5] {
		if got := pattern(Round(number(k.bits))); got != k.bits {
			t.Errorf("Round(%s) is %x", k.text, got)
		}
	}
	for _, b := range append(otherNaNs, nanBits) {
		if got := pattern(Round(number(b))); got != nanBits {
			t.Errorf("Round of NaN %x is %x, want the NaN", b, got)
		}
	}
}

func TestP3_2RoundHalvesAndBesideThem(t *testing.T) {
	check := func(n int) { // n is even
		half := float64(n) + 0.5
		checkRound(t, half, float64(n))
		checkRound(t, half+1, float64(n)+2)
		checkRound(t, math.Nextafter(half, 0), float64(n))
		checkRound(t, math.Nextafter(half, half+1), float64(n)+1)
		checkRound(t, math.Nextafter(half+1, 0), float64(n)+1)
		checkRound(t, math.Nextafter(half+1, half+2), float64(n)+2)
	}
	for n := 0; n < 2000; n += 2 {
		check(n)
	}
	for i := 2; i < 51; i++ { // beyond, the number beside a half is an integer
		check(1 << i)
		check(1<<i + 1<<(i-1))
	}
}

func TestP3_2RoundOfEveryExponent(t *testing.T) {
	walk(func(x float64) {
		if !math.IsInf(x, 0) {
			checkRound(t, x, rounded(x))
		}
	})
}

func TestP3_3ParseUndoesText(t *testing.T) {
	back := func(x float64, want uint64) {
		if y, code := Parse(Text(x)); code != api.OK || pattern(y) != want {
			t.Errorf("Parse(Text(%x)) is %x, %d", pattern(x), pattern(y), code)
		}
	}
	walk(func(x float64) { back(x, pattern(x)) })
	for _, k := range known {
		back(number(k.bits), k.bits)
	}
	for _, b := range otherNaNs {
		back(number(b), nanBits)
	}
}
