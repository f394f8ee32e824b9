package arith_test

import (
	"math"
	"math/big"
	"math/rand"
	"strconv"
	"strings"
	"testing"

	"stockpot/api"
	"stockpot/arith"
)

// made expects what the op makes of both.
func made(t *testing.T, op name, a, b, want int64) {
	t.Helper()
	if v, ok := arith.Of(int(op), a, b); !ok || v != want {
		t.Errorf("Of(%d, %d, %d) = %d, %t, want %d", op, a, b, v, ok, want)
	}
}

// notMade expects that the op makes nothing of both.
func notMade(t *testing.T, op int, a, b int64) {
	t.Helper()
	if v, ok := arith.Of(op, a, b); ok || v != 0 {
		t.Errorf("Of(%d, %d, %d) = %d, %t, want none", op, a, b, v, ok)
	}
}

// asTold expects of one of the seven what the document asks.
func asTold(t *testing.T, op name, a, b int64) {
	t.Helper()
	if want, ok := plainOf(op, a, b); ok {
		made(t, op, a, b, want)
	} else {
		notMade(t, int(op), a, b)
	}
}

// parsed expects the number of the digits.
func parsed(t *testing.T, s string, want int64) {
	t.Helper()
	if v, ok := arith.Parse(s); !ok || v != want {
		t.Errorf("Parse(%q) = %d, %t, want %d", s, v, ok, want)
	}
}

// notParsed expects that the text is no number.
func notParsed(t *testing.T, s string) {
	t.Helper()
	if v, ok := arith.Parse(s); ok || v != 0 {
		t.Errorf("Parse(%q) = %d, %t, want none", s, v, ok)
	}
}

// parsedAsTold expects of the text what the document asks.
func parsedAsTold(t *testing.T, s string) {
	t.Helper()
	if want, ok := plainParse(s); ok {
		parsed(t, s, want)
	} else {
		notParsed(t, s)
	}
}

// beyond are numbers of more than 63 bits, each with the number that has its lowest 63.
var beyond = map[int64]int64{
	1 << 62: least, 1<<62 + 1: least + 1, 1<<62 + 5: least + 5, math.MaxInt64: -1, math.MaxInt64 - 6: -7,
	-1<<62 - 1: most, -1<<62 - 5: most - 4, math.MinInt64: 0, math.MinInt64 + 1: 1, math.MinInt64 + 7: 7,
}

// P9.1

func TestTheSevenAreApis(t *testing.T) {
	for i, op := range []int{api.OAdd, api.OSub, api.OMul, api.ODiv, api.OMod, api.OEq, api.OLess} {
		if op != int(seven[i]) {
			t.Errorf("Op %d stands as %d here", op, seven[i])
		}
	}
}

func TestTheLeastByMinusOne(t *testing.T) {
	made(t, div, least, -1, least) // the chapter's example
	made(t, mod, least, -1, 0)
	made(t, mul, least, -1, least)
	made(t, div, 1<<62, math.MaxInt64, least) // both wrap to these
	made(t, mod, 1<<62, math.MaxInt64, 0)
	made(t, div, least+1, -1, most)
	made(t, div, most, -1, least+1)
	made(t, div, least, 1, least)
}

func TestOrdinaryNumbers(t *testing.T) {
	for _, c := range []struct {
		op         name
		a, b, want int64
	}{
		{add, 2, 3, 5}, {add, -2, 3, 1}, {add, 2, -3, -1}, {add, -2, -3, -5}, {add, 0, 0, 0}, {add, 1, -1, 0}, {add, most, least, -1},
		{sub, 2, 3, -1}, {sub, 3, 2, 1}, {sub, -2, 3, -5}, {sub, 2, -3, 5}, {sub, 0, 1, -1}, {sub, most, most, 0}, {sub, -1, most, least}, {sub, 0, most, least + 1},
		{mul, 6, 7, 42}, {mul, -3, 7, -21}, {mul, 3, -7, -21}, {mul, -3, -7, 21}, {mul, 0, least, 0}, {mul, most, 0, 0}, {mul, most, 1, most}, {mul, most, -1, least + 1}, {mul, -1, -1, 1}, {mul, 1 << 30, -1 << 32, least},
		{eq, 5, 5, 1}, {eq, 5, 6, 0}, {eq, 5, -5, 0}, {eq, 0, 0, 1}, {eq, least, least, 1}, {eq, most, least, 0}, {eq, most, most - 1, 0}, {eq, 1, 1<<32 + 1, 0},
		{less, 1, 2, 1}, {less, 2, 1, 0}, {less, 2, 2, 0}, {less, -2, -1, 1}, {less, -1, -2, 0}, {less, -1, 0, 1}, {less, 0, -1, 0}, {less, least, most, 1}, {less, most, least, 0}, {less, least, least, 0}, {less, least, least + 1, 1},
	} {
		made(t, c.op, c.a, c.b, c.want)
	}
}

func TestSumsDifferencesAndProductsWrap(t *testing.T) {
	for _, c := range []struct {
		op         name
		a, b, want int64
	}{
		{add, most, 1, least}, {add, 1, most, least}, {add, most, 2, least + 1}, {add, most, most, -2},
		{add, least, -1, most}, {add, -1, least, most}, {add, least, least, 0},
		{sub, least, 1, most}, {sub, least, 2, most - 1}, {sub, least, most, 1},
		{sub, most, -1, least}, {sub, most, least, -1}, {sub, 0, least, least}, {sub, -1, least, most}, {sub, 1, least, least + 1},
		{mul, most, 2, -2}, {mul, most, 3, most - 2}, {mul, most, most, 1}, {mul, least, least, 0}, {mul, least, 2, 0}, {mul, least, 3, least}, {mul, least, most, least},
		{mul, 1 << 31, 1 << 31, least}, {mul, 1 << 32, 1 << 31, 0}, {mul, 1 << 61, 2, least}, {mul, 1<<61 + 1, 2, least + 2}, {mul, -1<<61 - 1, 2, most - 1}, {mul, 1 << 40, 1 << 40, 0}, {mul, 1<<40 + 1, 1<<40 + 1, 1<<41 + 1},
	} {
		made(t, c.op, c.a, c.b, c.want)
	}
}

func TestQuotientsAreCutTowardsNought(t *testing.T) {
	for _, c := range []struct{ a, b, quotient, rest int64 }{
		{7, 2, 3, 1}, {-7, 2, -3, -1}, {7, -2, -3, 1}, {-7, -2, 3, -1},
		{6, 2, 3, 0}, {-6, 2, -3, 0}, {6, -2, -3, 0}, {-6, -2, 3, 0},
		{1, 2, 0, 1}, {-1, 2, 0, -1}, {1, -2, 0, 1}, {-1, -2, 0, -1},
		{0, 5, 0, 0}, {0, -5, 0, 0}, {5, 5, 1, 0}, {5, -5, -1, 0}, {-5, -5, 1, 0}, {1, 1, 1, 0}, {1, -1, -1, 0},
		{most, 2, 1<<61 - 1, 1}, {most, -2, 1 - 1<<61, 1}, {least, 2, -1 << 61, 0}, {least, -2, 1 << 61, 0}, {least, 3, -1537228672809129301, -1}, {least, -3, 1537228672809129301, -1},
		{most, least, 0, most}, {least, most, -1, -1}, {least, least, 1, 0}, {most, most, 1, 0}, {-1, least, 0, -1}, {-1, most, 0, -1}, {least + 1, most, -1, 0},
	} {
		made(t, div, c.a, c.b, c.quotient)
		made(t, mod, c.a, c.b, c.rest)
	}
}

func TestDividingByNought(t *testing.T) {
	for _, op := range []name{div, mod} {
		for _, a := range edges() {
			notMade(t, int(op), a, 0)
			notMade(t, int(op), a, math.MinInt64) // it wraps to 0
		}
		made(t, op, 0, 1, 0)
		made(t, op, math.MinInt64, 1, 0)
		made(t, op, math.MinInt64, -1, 0)
	}
}

func TestWhatIsWrappedCounts(t *testing.T) {
	for v, n := range beyond {
		for w, m := range beyond {
			for _, op := range seven {
				want, ok := plainOf(op, n, m)
				for _, c := range [][2]int64{{v, w}, {v, m}, {n, w}, {n, m}} {
					if got, is := arith.Of(int(op), c[0], c[1]); got != want || is != ok {
						t.Errorf("Of(%d, %d, %d) = %d, %t, want %d, %t as of %d, %d", op, c[0], c[1], got, is, want, ok, n, m)
					}
				}
			}
		}
	}
}

func TestEqualAndLessOfWhatWrapsToOne(t *testing.T) {
	for v, n := range beyond {
		if v == n {
			t.Fatalf("%d is wrapped", v)
		}
		for _, c := range [][2]int64{{v, v}, {v, n}, {n, v}, {n, n}} {
			made(t, eq, c[0], c[1], 1)
			made(t, less, c[0], c[1], 0)
		}
	}
	made(t, less, 1<<62, 0, 1) // the greater int64, the lesser number
	made(t, less, 0, 1<<62, 0)
	made(t, less, math.MaxInt64, math.MinInt64, 1)
	made(t, less, -1<<62-1, 0, 0)
	made(t, less, 0, -1<<62-1, 1)
	made(t, eq, math.MaxInt64, math.MinInt64, 0)
}

func TestTheSevenOfEachPairOfEdges(t *testing.T) {
	all := edges()
	for _, a := range all {
		for _, b := range all {
			for _, op := range seven {
				asTold(t, op, a, b)
			}
		}
	}
}

func TestTheSevenOfSmallNumbers(t *testing.T) {
	for a := int64(-20); a <= 20; a++ {
		for b := int64(-20); b <= 20; b++ {
			for _, op := range seven {
				asTold(t, op, a, b)
				asTold(t, op, a+least, b)
				asTold(t, op, a, b+least)
				asTold(t, op, a+math.MinInt64, b+math.MinInt64)
			}
		}
	}
}

func TestTheSevenOfNumbersOfAnySize(t *testing.T) {
	r := rand.New(rand.NewSource(9))
	for range 50000 {
		a, b := int64(r.Uint64())>>r.Intn(64), int64(r.Uint64())>>r.Intn(64)
		for _, op := range seven {
			asTold(t, op, a, b)
		}
	}
}

func TestWhatIsNoneOfTheSeven(t *testing.T) {
	ops := []int{math.MinInt, math.MinInt + 12, -1 << 62, -1 << 32, -1<<32 + 12, -1 << 31, -1 << 16, -256, -256 + 12, 256 + 12, 1<<16 + 12, 1<<31 - 1, 1 << 31, 1 << 32, 1<<32 + 12, 1<<32 + 18, 1 << 62, 1<<62 + 12, math.MaxInt - 1, math.MaxInt}
	for op := -300; op < 300; op++ {
		if op < int(add) || op > int(less) {
			ops = append(ops, op)
		}
	}
	for _, op := range ops {
		for _, a := range []int64{math.MinInt64, least, -1, 0, 1, 6, most, math.MaxInt64} {
			for _, b := range []int64{math.MinInt64, least, -1, 0, 1, 3, most, math.MaxInt64} {
				notMade(t, op, a, b)
			}
		}
	}
}

// P9.2

func TestText(t *testing.T) {
	for v, want := range map[int64]string{
		0: "0", 1: "1", -1: "-1", 7: "7", -7: "-7", 9: "9", 10: "10", -10: "-10", 1234567890: "1234567890", -1234567890: "-1234567890",
		most: "4611686018427387903", most - 1: "4611686018427387902", least: "-4611686018427387904", least + 1: "-4611686018427387903",
		1 << 62: "-4611686018427387904", 1<<62 + 1: "-4611686018427387903", -1<<62 - 1: "4611686018427387903", math.MaxInt64: "-1", math.MaxInt64 - 9: "-10", math.MinInt64: "0", math.MinInt64 + 1: "1", math.MinInt64 + 100: "100",
	} {
		if s := arith.Text(v); s != want {
			t.Errorf("Text(%d) = %q, want %q", v, s, want)
		}
	}
}

func TestTextOfEachEdge(t *testing.T) {
	for _, v := range edges() {
		if s, want := arith.Text(v), big.NewInt(wrapped(v)).String(); s != want {
			t.Errorf("Text(%d) = %q, want %q", v, s, want)
		}
	}
	for v := int64(-2000); v <= 2000; v++ {
		if s, want := arith.Text(v), strconv.Itoa(int(v)); s != want {
			t.Errorf("Text(%d) = %q, want %q", v, s, want)
		}
	}
}

func TestParseDigits(t *testing.T) {
	for s, want := range map[string]int64{
		"0": 0, "1": 1, "9": 9, "10": 10, "42": 42, "1234567890": 1234567890, "999999999999999999": 999999999999999999, "1000000000000000000": 1000000000000000000,
		"4611686018427387903": most, "4611686018427387902": most - 1, "4611686018427387899": most - 4, "4599999999999999999": 4599999999999999999, "3999999999999999999": 3999999999999999999,
	} {
		parsed(t, s, want)
	}
}

func TestParseNoughtsAhead(t *testing.T) {
	for n := 1; n <= 19; n++ {
		parsed(t, strings.Repeat("0", n), 0)
	}
	for n := range 19 {
		parsed(t, strings.Repeat("0", n)+"7", 7)
		parsed(t, strings.Repeat("0", n)+strings.Repeat("3", 19-n), plainNumber(strings.Repeat("3", 19-n)))
	}
	parsed(t, "007", 7)
	parsed(t, "010", 10) // not by eights
	parsed(t, "0000000000000000012", 12)
	parsed(t, "0999999999999999999", 999999999999999999)
}

// plainNumber is plainParse of digits that are a number.
func plainNumber(s string) int64 {
	n, _ := plainParse(s)
	return n
}

func TestParseTooManyDigits(t *testing.T) {
	for _, s := range []string{
		"00000000000000000000", "00000000000000000001", "00000000000000000012", "04611686018427387903", "10000000000000000000", "18446744073709551615", "18446744073709551616", "18446744073709551617", "46116860184273879030", "99999999999999999999",
		"000000000000000000000", "36893488147419103233", "340282366920938463463374607431768211457",
	} {
		notParsed(t, s)
	}
	for _, d := range []string{"0", "1", "9"} {
		for n := 20; n < 300; n++ {
			notParsed(t, strings.Repeat(d, n))
		}
		notParsed(t, strings.Repeat(d, 1<<20))
	}
}

func TestParseTooGreat(t *testing.T) {
	for _, s := range []string{"4611686018427387904", "4611686018427387905", "4611686018427387910", "4611686018427388000", "4700000000000000000", "5000000000000000000", "9223372036854775807", "9223372036854775808", "9223372036854775809", "9999999999999999999"} {
		notParsed(t, s)
	}
	for d := uint64(1); d < 3000; d++ {
		parsed(t, strconv.FormatUint(1<<62-d, 10), int64(1<<62-d))
		notParsed(t, strconv.FormatUint(1<<62+d-1, 10))
	}
}

func TestParseWhatIsNoDigits(t *testing.T) {
	for _, s := range []string{
		"", " ", "+", "-", "_", ".", "x", "-1", "+1", "-0", "+0", "--1", "1-", "1+", " 1", "1 ", "1 2", "\t1", "1\n", "\n", "1_0", "_1", "1_", "0_1", "0x1", "0X1f", "0b1", "0o7", "1e3", "1.0", "1.", ".1", "1,000", "a", "1a", "a1", "f", "true", "nil", "NaN", "inf", "Inf", "१", "１", "٣", "1٣", "²", "\x00", "1\x00", "\x001", "\xff", "1\xff", "\xff1", "\xc3\x28", "-4611686018427387904", "-1000000000000000000", "+461168601842738790",
	} {
		notParsed(t, s)
	}
}

func TestParseWithEachByte(t *testing.T) {
	for _, s := range []string{"5", "00", "12", "907", "123456789012345678", "4611686018427387903", "0000000000000000001"} {
		for b := range 256 {
			x := string([]byte{byte(b)})
			parsedAsTold(t, x)
			for i := range len(s) + 1 {
				parsedAsTold(t, s[:i]+x+s[i:])
				if i < len(s) {
					parsedAsTold(t, s[:i]+x+s[i+1:])
				}
			}
		}
	}
}

func TestParseEachShortText(t *testing.T) {
	const bytes = "019/:+-_ .xeE\x00\xb1\xff"
	var from func(s string)
	from = func(s string) {
		parsedAsTold(t, s)
		if len(s) == 4 {
			return
		}
		for i := range len(bytes) {
			from(s + bytes[i:i+1])
		}
	}
	from("")
}

func TestParseOfText(t *testing.T) {
	for _, v := range edges() {
		if n := wrapped(v); n < 0 {
			notParsed(t, arith.Text(v))
		} else {
			parsed(t, arith.Text(v), n)
		}
	}
}

// P9.3

// comesBack expects that the quotient times b, and what is left, is a; that what is left is nearer to 0 than b, and never of the other sign.
func comesBack(t *testing.T, a, b int64) {
	t.Helper()
	n, m := wrapped(a), wrapped(b)
	q, okq := arith.Of(int(div), a, b)
	r, okr := arith.Of(int(mod), a, b)
	if okq != (m != 0) || okr != (m != 0) {
		t.Errorf("%d by %d: %t, %t", a, b, okq, okr)
	}
	if m == 0 {
		return
	}
	p, _ := arith.Of(int(mul), q, b)
	if back, ok := arith.Of(int(add), p, r); !ok || back != n {
		t.Errorf("%d by %d is %d, and %d left: together %d, want %d", a, b, q, r, back, n)
	}
	if new(big.Int).Abs(big.NewInt(r)).Cmp(new(big.Int).Abs(big.NewInt(m))) >= 0 || r != 0 && (r < 0) != (n < 0) {
		t.Errorf("%d by %d: %d left", a, b, r)
	}
}

func TestTheQuotientTimesBAndWhatIsLeft(t *testing.T) {
	all := edges()
	for _, a := range all {
		for _, b := range all {
			comesBack(t, a, b)
		}
	}
	for a := int64(-60); a <= 60; a++ {
		for b := int64(-60); b <= 60; b++ {
			comesBack(t, a, b)
		}
	}
	r := rand.New(rand.NewSource(63))
	for range 50000 {
		comesBack(t, int64(r.Uint64())>>r.Intn(64), int64(r.Uint64())>>r.Intn(64))
	}
}
