package text_test

import (
	"math"
	"strconv"
	"strings"
	"testing"

	"arborist/api"
	"arborist/text"
)

// numbers are ints around all powers of two and of ten, with both signs.
func numbers() []int {
	l := []int{0, math.MinInt, math.MinInt + 1, math.MaxInt, math.MaxInt - 1}
	for i := range 63 {
		two := 1 << i
		l = append(l, two-1, two, two+1, -two-1, -two, -two+1)
	}
	for ten := 1; ten <= math.MaxInt/10; ten *= 10 {
		l = append(l, ten-1, ten, ten+1, -ten-1, -ten, -ten+1, 9*ten, 10*(ten-1)+9)
	}
	return l
}

// Promise P104: Show returns the decimal digits of every int.
func TestP104Show(t *testing.T) {
	for n, want := range map[int]string{
		0: "0", 7: "7", -1: "-1", 10: "10", 100: "100", -205: "-205", 1000000007: "1000000007",
		math.MaxInt: "9223372036854775807", math.MinInt: "-9223372036854775808",
	} {
		if s := text.Show(n); s != want {
			t.Errorf("Show(%d) = %q", n, s)
		}
	}
	for _, n := range numbers() {
		if s := text.Show(n); s != strconv.Itoa(n) {
			t.Errorf("Show(%d) = %q", n, s)
		}
	}
}

// Promise P104: Read returns the number.
func TestP104Read(t *testing.T) {
	for _, n := range numbers() {
		if n < 0 {
			continue
		}
		for _, most := range []int{n, math.MaxInt} {
			if got, e := text.Read(strconv.Itoa(n), most); got != n || e != api.OK {
				t.Errorf("Read(%d, %d) = %d, %d", n, most, got, e)
			}
		}
	}
}

// Promise P104: Read asks for digits without a leading zero, whatever the bound.
func TestP104Form(t *testing.T) {
	for _, s := range []string{
		"", "00", "01", "007", "-1", "-0", "+1", "-", "+", "a", "1a", "a1", " 1", "1 ", "1\n", "1.0", "1_000", "0x1", "1e3", "/", ":",
		"\x00", "\xff", "1\xff", "\u0661", "1\u0661", "09223372036854775808", strings.Repeat("9", 40) + "x", "5x", "-9223372036854775808",
	} {
		for _, most := range []int{math.MinInt, -1, 0, 3, math.MaxInt} {
			if n, e := text.Read(s, most); n != 0 || e != api.ErrForm {
				t.Errorf("Read(%q, %d) = %d, %d", s, most, n, e)
			}
		}
	}
}

// Promise P104: Read refuses a number above the bound, however long it is.
func TestP104Range(t *testing.T) {
	for _, c := range []struct {
		s    string
		most int
	}{
		{"1", 0}, {"0", -1}, {"9", 5}, {"9", 8}, {"10", 9}, {"11", 10}, {"100", 99}, {"15", 14}, {"19", 10}, {"65537", 65536},
		{"0", math.MinInt}, {"7", math.MinInt}, {"12", -5},
		{"9223372036854775807", math.MaxInt - 1}, {"9223372036854775808", math.MaxInt}, {"9223372036854775810", math.MaxInt},
		{"18446744073709551616", math.MaxInt}, {"18446744073709551617", 5}, {"92233720368547758070", math.MaxInt},
		{strings.Repeat("9", 1000), math.MaxInt}, {"1" + strings.Repeat("0", 64), math.MaxInt},
	} {
		if n, e := text.Read(c.s, c.most); n != 0 || e != api.ErrRange {
			t.Errorf("Read(%q, %d) = %d, %d", c.s, c.most, n, e)
		}
	}
}

// Promise P104: all small numbers against all small bounds.
func TestP104Bounds(t *testing.T) {
	for n := range 130 {
		for most := -3; most < 130; most++ {
			got, e := text.Read(strconv.Itoa(n), most)
			if n <= most && (got != n || e != api.OK) || n > most && (got != 0 || e != api.ErrRange) {
				t.Errorf("Read(%d, %d) = %d, %d", n, most, got, e)
			}
		}
	}
}
