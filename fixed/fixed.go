// Package fixed is layer 1: shares in units, rounded up: see shared/doc/01-fixed.md.
package fixed

import (
	"cmp"
	"math"
	"sort"

	"tithe/api"
)

// Valid tells whether a reservation may be.
func Valid(r api.Reserve) error {
	if r.Q < 1 || r.P > api.MaxPeriod || r.Q > r.P {
		return api.ErrRange
	}
	return nil
}

// Share is a reservation's share in units, rounded up.
func Share(r api.Reserve) (int, error) {
	if err := Valid(r); err != nil {
		return 0, err
	}
	return (r.Q*api.Unit + r.P - 1) / r.P, nil
}

// Sum is a sum that can't overflow.
func Sum(l []int) (int, error) {
	if anyBelowZero(l) {
		return 0, api.ErrArg
	}
	sum := 0
	for _, n := range l {
		if n > math.MaxInt-sum {
			return 0, api.ErrOverflow
		}
		sum += n
	}
	return sum, nil
}

// Fits tells whether shares and one more are at most the whole.
func Fits(l []int, more int) (bool, error) {
	if more < 0 || anyBelowZero(l) {
		return false, api.ErrArg
	}
	// What is left is reckoned, not the sum: that could overflow.
	if more > api.Unit {
		return false, nil
	}
	left := api.Unit - more
	for _, n := range l {
		if n > left {
			return false, nil
		}
		left -= n
	}
	return true, nil
}

// Most is the greatest budget of a period whose share is at most so many units.
func Most(units, p int) (int, error) {
	if units < 0 || units > api.Unit {
		return 0, api.ErrArg
	}
	if p < 1 || p > api.MaxPeriod {
		return 0, api.ErrRange
	}
	// As units is whole, a share rounded up is at most units just where the exact one is.
	return units * p / api.Unit, nil
}

// Compare compares two reservations, exactly.
func Compare(a, b api.Reserve) (int, error) {
	if Valid(a) != nil || Valid(b) != nil {
		return 0, api.ErrRange
	}
	return cmp.Compare(a.Q*b.P, b.Q*a.P), nil
}

// Text is units as a text, in parts of the whole.
func Text(units int) (string, error) {
	if units < 0 || units > api.Unit {
		return "", api.ErrArg
	}
	return decimal(units), nil
}

// Read is the units of a text.
func Read(s string) (int, error) {
	// Texts of more units stand behind those of fewer in the order of strings: so they can be searched. The whole is left where no other is found.
	units := sort.Search(api.Unit, func(n int) bool { return decimal(n) >= s })
	if decimal(units) != s {
		return 0, api.ErrForm
	}
	return units, nil
}

// anyBelowZero tells whether one of the numbers is below 0.
func anyBelowZero(l []int) bool {
	for _, n := range l {
		if n < 0 {
			return true
		}
	}
	return false
}

// decimal is units, from 0 to the whole, in decimal digits.
func decimal(units int) string {
	text := []byte{digit(units / api.Unit)}
	rest := units % api.Unit
	if rest > 0 {
		text = append(text, '.')
	}
	// The rest is 0 behind 20 digits at most: each times 10 brings it one more factor 2.
	for rest > 0 {
		rest *= 10
		text = append(text, digit(rest/api.Unit))
		rest %= api.Unit
	}
	return string(text)
}

// digit is the character of a number from 0 to 9.
func digit(n int) byte { return byte('0' + n) }
