package name_test

import (
	"regexp"
	"slices"
	"strings"
	"testing"

	"sodality/name"
)

// words is all texts of at most most bytes of an alphabet.
func words(alphabet string, most int) []string {
	all := []string{""}
	from := 0
	for range most {
		to := len(all)
		for _, w := range all[from:to] {
			for i := range len(alphabet) {
				all = append(all, w+alphabet[i:i+1])
			}
		}
		from = to
	}
	return all
}

// lists is all lists of at most most of some texts, sorted ones and others.
func lists(texts []string, most int) [][]string {
	all := [][]string{nil}
	from := 0
	for range most {
		to := len(all)
		for _, l := range all[from:to] {
			for _, s := range texts {
				all = append(all, append(slices.Clone(l), s))
			}
		}
		from = to
	}
	return all
}

// rising asks whether a list is strictly ascending.
func rising(l []string) bool {
	for i := 1; i < len(l); i++ {
		if l[i-1] >= l[i] {
			return false
		}
	}
	return true
}

// strange is texts of every byte, alone and first, in the middle and last.
func strange() []string {
	var l []string
	for i := range 256 {
		b := string([]byte{byte(i)})
		l = append(l, b, b+"aa", "a"+b+"a", "aa"+b, "a/"+b, b+"/a", "a/"+b+"/a", "a"+b+"b/c")
	}
	return append(l, "é", "日本", "\xff\xfe", "a\x00", "a\n", "\na", "ａ", "ſ", "K")
}

// long is texts of 0 to 40 bytes and much longer ones, with each end.
func long() []string {
	var l []string
	for _, n := range []int{100, 1000, 1 << 20} {
		l = append(l, strings.Repeat("a", n), strings.Repeat("-", n), strings.Repeat("/", n), strings.Repeat("a/", n))
	}
	for n := range 41 {
		s := strings.Repeat("a", n)
		l = append(l, s, "-"+s, s+"-", "/"+s, s+"/", "z/"+s, s+"/9", "0-"+s, "_."+s)
	}
	return l
}

// texts is what the questions about one text are asked with.
func texts() []string {
	return slices.Concat(words("az09-_./*A", 4), strange(), long())
}

var (
	nameForm = regexp.MustCompile(`\A[a-z0-9]([a-z0-9-]{0,22}[a-z0-9])?\z`)
	keyForm  = regexp.MustCompile(`\A[a-z0-9_.-]+(/[a-z0-9_.-]+)*\z`)
)

// P1.1
func TestRight(t *testing.T) {
	for s, want := range map[string]bool{
		"": false, "a": true, "z": true, "0": true, "9": true, "-": false, "--": false, "*": false,
		"web-1": true, "-web": false, "web-": false, "Web": false, "we b": false, "a--b": true, "1-1": true,
		"a/b": false, "a.b": false, "a_b": false, "`": false, "{": false, ":": false,
		strings.Repeat("a", 24): true, strings.Repeat("a", 25): false,
		"a" + strings.Repeat("-", 22) + "a": true, "a" + strings.Repeat("-", 23) + "a": false,
		"-" + strings.Repeat("a", 23): false, strings.Repeat("a", 23) + "-": false,
	} {
		if got := name.Right(s); got != want {
			t.Errorf("Right(%q) = %v", s, got)
		}
	}
	for _, s := range texts() {
		if got, want := name.Right(s), nameForm.MatchString(s); got != want {
			t.Errorf("Right(%.60q) = %v", s, got)
		}
	}
}

// P1.1
func TestPattern(t *testing.T) {
	for s, want := range map[string]bool{
		"*": true, "**": false, "": false, "web": true, "web*": false, "*web": false, "-": false, "-a": false,
		strings.Repeat("a", 24): true, strings.Repeat("a", 25): false, strings.Repeat("*", 24): false,
	} {
		if got := name.Pattern(s); got != want {
			t.Errorf("Pattern(%q) = %v", s, got)
		}
	}
	for _, s := range texts() {
		if got, want := name.Pattern(s), s == "*" || nameForm.MatchString(s); got != want {
			t.Errorf("Pattern(%.60q) = %v", s, got)
		}
	}
}

// P1.1
func TestMatch(t *testing.T) {
	for _, c := range []struct {
		p, s string
		want bool
	}{
		{"*", "web", true}, {"*", "*", false}, {"web", "web", true}, {"web", "db", false}, {"web", "web-1", false},
		{"web-1", "web", false}, {"*", "", false}, {"", "", false}, {"", "web", false}, {"-a", "-a", false},
		{"Web", "Web", false}, {"web", "*", false}, {"**", "web", false}, {"w*", "web", false},
		{"*", strings.Repeat("a", 24), true}, {"*", strings.Repeat("a", 25), false},
		{strings.Repeat("a", 25), strings.Repeat("a", 25), false},
	} {
		if got := name.Match(c.p, c.s); got != c.want {
			t.Errorf("Match(%q, %q) = %v", c.p, c.s, got)
		}
	}
	few := append(words("a-*A", 3), strange()...)
	for _, s := range few {
		for _, p := range []string{"*", "", "a", "aa", "A", "-", "**", s} {
			want := nameForm.MatchString(s) && (p == s || p == "*")
			if got := name.Match(p, s); got != want {
				t.Errorf("Match(%q, %q) = %v", p, s, got)
			}
		}
	}
}

// P1.2
func TestKey(t *testing.T) {
	for s, want := range map[string]bool{
		"": false, "a": true, "a/b.c": true, "a//b": false, "/a": false, "a/": false, "/": false, "//": false,
		"a_b": true, "-": true, ".": true, "..": true, "_": true, "a/b/c": true, "a/b/": false, "A": false, "a b": false,
		"-a/-b": true, "*": false, "a/*": false, "a/B": false, "a,b": false,
		strings.Repeat("a", 32): true, strings.Repeat("a", 33): false,
		strings.Repeat("a/", 15) + "ab": true, strings.Repeat("a/", 16): false, strings.Repeat("a/", 16) + "a": false,
	} {
		if got := name.Key(s); got != want {
			t.Errorf("Key(%q) = %v", s, got)
		}
	}
	for _, s := range texts() {
		if got, want := name.Key(s), len(s) <= 32 && keyForm.MatchString(s); got != want {
			t.Errorf("Key(%.60q) = %v", s, got)
		}
	}
}

// under is what P1.2 says of Under, word by word.
func under(key, prefix string) bool {
	if len(key) < len(prefix) || key[:len(prefix)] != prefix {
		return false
	}
	empty := prefix == ""
	slash := !empty && prefix[len(prefix)-1] == '/'
	followed := len(key) > len(prefix) && key[len(prefix)] == '/'
	return empty || slash || key == prefix || followed
}

// P1.2
func TestUnder(t *testing.T) {
	for _, c := range []struct {
		key, prefix string
		want        bool
	}{
		{"a/b", "a", true}, {"ab", "a", false}, {"ab", "", true}, {"", "", true}, {"", "a", false}, {"a/b", "a/", true},
		{"a", "a", true}, {"a", "a/", false}, {"a", "a/b", false}, {"a/b", "b", false}, {"a/bc", "a/b", false},
		{"/", "/", true}, {"/x", "/", true}, {"//", "/", true}, {"/", "", true}, {"A*\xff", "A*\xff", true},
		{"A*\xff/", "A*\xff", true}, {"A*\xff.", "A*\xff", false}, {"a\x00", "a", false},
	} {
		if got := name.Under(c.key, c.prefix); got != c.want {
			t.Errorf("Under(%q, %q) = %v", c.key, c.prefix, got)
		}
	}
	few := words("ab/\xff", 4)
	for _, key := range few {
		for _, prefix := range few {
			if got, want := name.Under(key, prefix), under(key, prefix); got != want {
				t.Errorf("Under(%q, %q) = %v", key, prefix, got)
			}
		}
	}
}

// some is texts of which the lists are, names and others.
func some() []string {
	return []string{"", "a", "aa", "b", "B", "\xff"}
}

// P1.3
func TestSorted(t *testing.T) {
	if got := name.Sorted([]string{"b", "a", "b"}); !slices.Equal(got, []string{"a", "b"}) {
		t.Errorf("Sorted(b, a, b) = %q", got)
	}
	if len(name.Sorted(nil)) != 0 || len(name.Sorted([]string{})) != 0 {
		t.Error("Sorted of nothing is something")
	}
	if got := name.Sorted([]string{"", "", ""}); !slices.Equal(got, []string{""}) {
		t.Errorf("Sorted of empty texts = %q", got)
	}
	if got, want := name.Sorted([]string{"é", "z", "a", "Z", "aa", "\xff", "é"}), []string{"Z", "a", "aa", "z", "é", "\xff"}; !slices.Equal(got, want) {
		t.Errorf("Sorted by bytes = %q", got)
	}
	for _, l := range lists(some(), 5) {
		got := name.Sorted(l)
		if !rising(got) {
			t.Errorf("Sorted(%q) = %q", l, got)
		}
		for _, s := range some() {
			if slices.Contains(got, s) != slices.Contains(l, s) {
				t.Errorf("Sorted(%q) = %q, with another %q", l, got, s)
			}
		}
	}
}

// P1.3
func TestSortedLists(t *testing.T) {
	for _, l := range lists(some(), 4) {
		if !rising(l) {
			continue
		}
		for _, s := range append(some(), "0", "ab", "c", "\xff\xff") {
			if got := name.Has(l, s); got != slices.Contains(l, s) {
				t.Errorf("Has(%q, %q) = %v", l, s, got)
			}
			if got, want := name.With(l, s), name.Sorted(append([]string{s}, l...)); !slices.Equal(got, want) {
				t.Errorf("With(%q, %q) = %q", l, s, got)
			}
			var want []string
			for _, x := range l {
				if x != s {
					want = append(want, x)
				}
			}
			if got := name.Without(l, s); !slices.Equal(got, want) {
				t.Errorf("Without(%q, %q) = %q", l, s, got)
			}
		}
	}
}

// P1.3: there is no more to ask of these than that they return.
func TestUnsortedLists(t *testing.T) {
	for _, l := range lists(some(), 4) {
		for _, s := range some() {
			name.Has(l, s)
			name.With(l, s)
			name.Without(l, s)
		}
	}
	var falling []string
	for i := range 5000 {
		falling = append(falling, strings.Repeat("b", i%7), strings.Repeat("a", 40-i%40), "\xff\x00")
	}
	for _, s := range []string{"", "a", "bbb", "\xff\x00", strings.Repeat("c", 10000)} {
		name.Has(falling, s)
		name.With(falling, s)
		name.Without(falling, s)
	}
}

// P1.4
func TestTags(t *testing.T) {
	for _, c := range []struct {
		l    []string
		want bool
	}{
		{nil, true}, {[]string{}, true}, {[]string{"a"}, true}, {[]string{"a", "b"}, true}, {[]string{"b", "a"}, false},
		{[]string{"a", "a"}, false}, {[]string{"a", "b", "c", "d"}, true}, {[]string{"a", "b", "c", "d", "e"}, false},
		{[]string{"a", "b", "d", "c"}, false}, {[]string{"a", "c", "b", "d"}, false}, {[]string{"a", "b", "c", "c"}, false},
		{[]string{""}, false}, {[]string{"", "a"}, false}, {[]string{"*"}, false}, {[]string{"A"}, false}, {[]string{"a", "b-"}, false},
		{[]string{"-a", "b"}, false}, {[]string{"a", "b", "c", "d-"}, false}, {[]string{"a", "aa", "ab", "b"}, true},
		{[]string{"10", "9"}, true}, {[]string{"9", "10"}, false}, {[]string{"a", "\xff"}, false},
		{[]string{strings.Repeat("a", 24)}, true}, {[]string{strings.Repeat("a", 25)}, false},
	} {
		if got := name.Tags(c.l); got != c.want {
			t.Errorf("Tags(%q) = %v", c.l, got)
		}
	}
	for _, l := range lists([]string{"a", "b", "c", "d", "e", "-"}, 5) {
		want := len(l) <= 4 && rising(l) && !slices.Contains(l, "-")
		if got := name.Tags(l); got != want {
			t.Errorf("Tags(%q) = %v", l, got)
		}
	}
}

// P1.5
func TestThereAndBack(t *testing.T) {
	for _, l := range lists(some(), 4) {
		up := name.Sorted(l)
		if got := name.Sorted(up); !slices.Equal(got, up) {
			t.Errorf("Sorted(%q) = %q", up, got)
		}
		for _, s := range append(some(), "c", "\x00") {
			if name.Has(up, s) {
				continue
			}
			with := name.With(up, s)
			if !name.Has(with, s) || !slices.Equal(name.Sorted(with), with) {
				t.Errorf("With(%q, %q) = %q", up, s, with)
			}
			if got := name.Without(with, s); !slices.Equal(got, up) {
				t.Errorf("Without(%q, %q) = %q", with, s, got)
			}
		}
	}
}

// R3: no argument is changed, its spare room neither, and no result shares memory with one or with another result.
func TestMemory(t *testing.T) {
	calls := map[string]func(l []string) []string{
		"Sorted":               name.Sorted,
		"With a new one":       func(l []string) []string { return name.With(l, "ab") },
		"With one of it":       func(l []string) []string { return name.With(l, "b") },
		"With a first one":     func(l []string) []string { return name.With(l, "") },
		"With a last one":      func(l []string) []string { return name.With(l, "z") },
		"Without one of it":    func(l []string) []string { return name.Without(l, "b") },
		"Without the last one": func(l []string) []string { return name.Without(l, "c") },
		"Without another one":  func(l []string) []string { return name.Without(l, "z") },
	}
	for _, start := range [][]string{{"a", "b", "c"}, {"c", "b", "a"}, {"b", "b", "b"}} {
		for call, do := range calls {
			whole := append(slices.Clone(start), "spare", "room")
			first := do(whole[:3])
			want := slices.Clone(first)
			second := do(whole[:3])
			wipe(first)
			if !slices.Equal(second, want) {
				t.Errorf("%s of %q: two results share memory", call, start)
			}
			if !slices.Equal(whole[:3], start) || whole[3] != "spare" || whole[4] != "room" {
				t.Errorf("%s of %q: the argument is %q", call, start, whole)
			}
			wipe(whole)
			if !slices.Equal(second, want) {
				t.Errorf("%s of %q: the result shares memory with the argument", call, start)
			}
		}
	}
}

// wipe overwrites a list and its spare room.
func wipe(l []string) {
	l = l[:cap(l)]
	for i := range l {
		l[i] = "wiped"
	}
}

// R4: an answer hangs on the arguments alone, whatever was asked before.
func TestAgain(t *testing.T) {
	for _, l := range lists([]string{"", "a", "b"}, 3) {
		first := name.Sorted(l)
		name.Sorted([]string{"a", "b", ""})
		if !slices.Equal(name.Sorted(l), first) {
			t.Errorf("Sorted(%q) turns", l)
		}
	}
}
