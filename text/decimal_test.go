package text_test

import (
	"math"
	"strconv"
	"strings"
	"testing"

	"pantile/api"
	"pantile/text"
)

// P7.1: decimals that are known, those of the least and the greatest int too.
func TestKnownDecimals(t *testing.T) {
	for n, want := range map[int]string{
		0: "0", 1: "1", 9: "9", 10: "10", 11: "11", 99: "99", 100: "100", 101: "101", 1000: "1000", 1234067: "1234067",
		most - 1: "9007199254740991", most: "9007199254740992", most + 1: "9007199254740993",
		-1: "-1", -9: "-9", -10: "-10", -100: "-100", -most: "-9007199254740992",
		math.MaxInt: "9223372036854775807", math.MaxInt - 1: "9223372036854775806", 1000000000000000000: "1000000000000000000", 999999999999999999: "999999999999999999",
		math.MinInt: "-9223372036854775808", math.MinInt + 1: "-9223372036854775807", -1000000000000000000: "-1000000000000000000",
	} {
		if s := text.Decimal(n); s != want {
			t.Errorf("Decimal(%d): %q", n, s)
		}
	}
}

// P7.1: decimals around each power of ten and of two, of either sign, and many others, as others print them.
func TestDecimalsByTheModel(t *testing.T) {
	is := func(n int) {
		if s := text.Decimal(n); s != strconv.Itoa(n) {
			t.Errorf("Decimal(%d): %q", n, s)
		}
	}
	for n := -20000; n <= 20000; n++ {
		is(n)
	}
	c := chance(71)
	for bits := range 64 {
		for range 50 {
			n := int((uint64(c.below(1<<31))<<33 | uint64(c.below(1<<31))<<2) >> bits)
			is(n)
			is(-n)
		}
		for by := -3; by <= 3; by++ {
			is(1<<bits + by)
			is(-1<<bits + by)
		}
	}
	for n := 1; n < math.MaxInt/10; n *= 10 {
		for by := -3; by <= 3; by++ {
			is(10*n + by)
			is(-10*n + by)
			is(7*n + by)
		}
	}
}

// P7.1: a decimal is read as its number, up to 2^53.
func TestDecimalsAreRead(t *testing.T) {
	is := func(n int) {
		if got, e := text.Number(text.Decimal(n)); got != n || e != api.OK {
			t.Errorf("Number(Decimal(%d)): %d %d", n, got, e)
		}
	}
	for n := range 20000 {
		is(n)
		is(most - n)
	}
	for n := 1; n < most; n *= 2 {
		is(n)
		is(n - 1)
	}
	for n := 1; n < most; n *= 10 {
		is(n)
		is(n - 1)
	}
}

// P7.1: numbers above 2^53 and below 0 are none that are read, those neither that would come out right by wrapping round.
func TestNumbersOutOfRange(t *testing.T) {
	refusesEach(t, tells,
		"9007199254740993", "9007199254740999", "9007199254741000", "9999999999999999", "10000000000000000", "12345678901234567",
		"9223372036854775807", "9223372036854775808", "18446744073709551615", "18446744073709551616", "18446744073709551617", "18446744073709551623",
		"36893488147419103239", "184467440737095516160", "340282366920938463463374607431768211463", strings.Repeat("9", 1000), "7"+strings.Repeat("0", 100000),
		"-0", "-1", "-7", "-9007199254740992", "-9007199254740993", "-9223372036854775808", "-18446744073709551609",
	)
	for n := 1; n <= 1000; n++ {
		refusesEach(t, tells, strconv.Itoa(most+n), strconv.Itoa(-n), strconv.Itoa(math.MaxInt-n), strconv.FormatUint(math.MaxUint64-uint64(n), 10))
	}
	takesEach(t, tells, "0", "9007199254740991", "9007199254740992", "9007199254740989", "8999999999999999", "1000000000000000")
}

// P7.1: noughts ahead, signs ahead, and what is no digit.
func TestTextsThatAreNoDecimals(t *testing.T) {
	refusesEach(t, tells,
		"", "00", "000", "01", "007", "010", "0000000000000000", "00000000000000001", "09007199254740992", "0"+strings.Repeat("0", 1000),
		"+0", "+1", "+7", "--1", "-", "+", "−1", " 1", "1 ", " ", "1\n", "\n1", "1\x00", "\x001", "\x00", "1 2", "1,2", "1.0", "1.", ".1", "1e3", "1_000", "_1",
		"0x1", "0X1", "x", "0b1", "0o7", "a", "1a", "a1", "f", "1/", "1:", "/1", ":1", "٣", "１", "²", "\xff", "\xb1", "1\xff", "9007199254740992 ", "é1",
	)
	for s := range texts("0179-+ x/:", 4) {
		tells(t, s)
	}
	for n := range 1 << 16 {
		tells(t, string([]byte{byte(n >> 8), byte(n)}))
		tells(t, string([]byte{'1', byte(n >> 8), byte(n)}))
	}
}

// P7.1: a fault in a decimal is found wherever it stands.
func TestDecimalsWithAFault(t *testing.T) {
	all := make([]byte, 256)
	for i := range all {
		all[i] = byte(i)
	}
	for _, s := range []string{"0", "7", "10", "123", "9007199254740992", "9007199254740991", "1000000000000000", "5555555555555555"} {
		takesEach(t, tells, s)
		for other := range spoilt(s, string(all)) {
			tells(t, other)
		}
	}
}
