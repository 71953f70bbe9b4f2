// Package name is layer 1: names, keys, patterns, and sorted lists of names.
package name

import (
	"slices"
	"strings"

	"sodality/api"
)

// star is the pattern that takes every name.
const star = "*"

// alphabet is the bytes that a text may have beside small letters and digits.
type alphabet string

// has asks whether a byte is one of the alphabet.
func (a alphabet) has(b byte) bool {
	letter := 'a' <= b && b <= 'z'
	digit := '0' <= b && b <= '9'
	return letter || digit || strings.IndexByte(string(a), b) >= 0
}

// spells asks whether a text is not empty and of the alphabet alone.
func (a alphabet) spells(s string) bool {
	for i := range len(s) {
		if !a.has(s[i]) {
			return false
		}
	}
	return s != ""
}

// Right asks whether a text is a name.
func Right(s string) bool {
	return len(s) <= api.MaxName && alphabet("-").spells(s) &&
		!strings.HasPrefix(s, "-") && !strings.HasSuffix(s, "-")
}

// Pattern asks whether a text is a name, or the star.
func Pattern(s string) bool {
	return s == star || Right(s)
}

// Match asks whether a pattern takes a name.
func Match(p, s string) bool {
	return (p == star || p == s) && Right(s)
}

// Key asks whether a text is a key.
func Key(s string) bool {
	return len(s) <= api.MaxKey && everyPart(s, alphabet("-_.").spells)
}

// everyPart asks whether each part of a text between its slashes is good.
func everyPart(s string, good func(string) bool) bool {
	for _, part := range strings.Split(s, "/") {
		if !good(part) {
			return false
		}
	}
	return true
}

// Under asks whether a key lies under a prefix.
func Under(key, prefix string) bool {
	rest, begins := strings.CutPrefix(key, prefix)
	if !begins {
		return false
	}
	// A prefix takes whole parts only: "ab" does not lie under "a".
	return prefix == "" || strings.HasSuffix(prefix, "/") ||
		rest == "" || strings.HasPrefix(rest, "/")
}

// keep is the elements of a list that are good, in new memory.
func keep[T any](l []T, good func(T) bool) []T {
	var out []T
	for _, x := range l {
		if good(x) {
			out = append(out, x)
		}
	}
	return out
}

// Sorted is texts, rising, each once.
func Sorted(l []string) []string {
	rising := slices.Clone(l)
	slices.Sort(rising)
	last, begun := "", false
	return keep(rising, func(s string) bool {
		fresh := !begun || s != last
		last, begun = s, true
		return fresh
	})
}

// Has asks whether a text stands in a sorted list.
func Has(l []string, s string) bool {
	_, found := slices.BinarySearch(l, s)
	return found
}

// With is a sorted list with a text.
func With(l []string, s string) []string {
	out := keep(l, func(x string) bool { return x < s })
	out = append(out, s)
	return append(out, keep(l, func(x string) bool { return x > s })...)
}

// Without is a sorted list without a text.
func Without(l []string, s string) []string {
	return keep(l, func(x string) bool { return x != s })
}

// Tags asks whether a list may be a service's tags.
func Tags(l []string) bool {
	if len(l) > api.MaxTags {
		return false
	}
	for i := range len(l) {
		if !Right(l[i]) || i > 0 && l[i-1] >= l[i] {
			return false
		}
	}
	return true
}
