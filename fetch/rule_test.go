package fetch

import (
	"fmt"
	"maps"
	"regexp"
	"slices"
	"strings"
	"testing"

	"gatepost/api"
)

// The document's rules, told once more by other means. Texts are made a rune a byte for these forms (see runes), so that every byte is one of theirs.
var (
	simpleForm = regexp.MustCompile(`\A(?:GET|HEAD|POST)\z`)
	methodForm = regexp.MustCompile(`\A(?:[Dd][Ee][Ll][Ee][Tt][Ee]|[Gg][Ee][Tt]|[Hh][Ee][Aa][Dd]|[Oo][Pp][Tt][Ii][Oo][Nn][Ss]|[Pp][Oo][Ss][Tt]|[Pp][Uu][Tt])\z`)
	wordForm   = regexp.MustCompile(`\A[!#-'*+\-.0-9A-Z^-z|~]+\z`)
	safeForm   = regexp.MustCompile(`\A[\x09\x20!#-'*-9;=A-Z^-z|~\x{80}-\x{ff}]{0,128}\z`)
	tongueForm = regexp.MustCompile(`\A[\x20*,-.0-9;=A-Za-z]{0,128}\z`)
	typeForm   = regexp.MustCompile(`(?s)\A[\x20\x09]*(?:application/x-www-form-urlencoded|multipart/form-data|text/plain)[\x20\x09]*(?:;.*)?\z`)
)

// runes is a text with a rune for each byte.
func runes(s string) string {
	out := make([]rune, len(s))
	for i := range len(s) {
		out[i] = rune(s[i])
	}
	return string(out)
}

// lower takes great letters of ASCII away, one kind after the other.
func lower(s string) string {
	for c := 'A'; c <= 'Z'; c++ {
		s = strings.ReplaceAll(s, string(c), string(c+32))
	}
	return s
}

func ruleMethod(s string) string {
	if methodForm.MatchString(runes(s)) {
		return strings.ToUpper(s)
	}
	return s
}

// rulePlain holds a Value against all forms of its name. Since no form tells letters apart but typeForm, whose letters are small, small ones are asked for.
func rulePlain(p api.Param) bool {
	forms := map[string][]*regexp.Regexp{
		"accept":           {safeForm},
		"accept-language":  {tongueForm},
		"content-language": {tongueForm},
		"content-type":     {safeForm, typeForm},
	}[lower(p.Name)]
	isNot := func(form *regexp.Regexp) bool { return !form.MatchString(runes(lower(p.Value))) }
	return len(forms) > 0 && !slices.ContainsFunc(forms, isNot)
}

// ruleAsked is Asked by a set of names.
func ruleAsked(l []api.Param) []string {
	names := map[string]int{}
	values := ""
	for _, p := range l {
		if rulePlain(p) {
			values += p.Value
		}
	}
	for _, p := range l {
		if len(values) >= 1025 || !rulePlain(p) {
			names[lower(p.Name)]++
		}
	}
	return slices.Sorted(maps.Keys(names))
}

func ruleRight(r api.Request) bool {
	isWord := func(s string) bool { return wordForm.MatchString(runes(s)) }
	names := 0
	for _, p := range r.Heads {
		if isWord(p.Name) {
			names++
		}
	}
	return slices.Contains([]int{0, 1, 2, 3}, r.Part) && isWord(r.Method) && names == len(r.Heads) && names < 41
}

// wantAll asks all of the package of one request, against the rules.
func wantAll(t *testing.T, r api.Request) {
	t.Helper()
	wantSimple(t, r.Method, simpleForm.MatchString(runes(r.Method)))
	wantMethod(t, r.Method, ruleMethod(r.Method))
	for _, p := range r.Heads {
		wantPlain(t, p.Name, p.Value, rulePlain(p))
	}
	wantAsked(t, r.Heads, ruleAsked(r.Heads)...)
	wantRight(t, r, ruleRight(r))
}

// die: numbers that look drawn, the same each time.
type die uint64

func (d *die) n(most int) int {
	*d = *d*6364136223846793005 + 1442695040888963407
	return int(uint64(*d>>33) % uint64(most))
}

func pick(d *die, l ...string) string { return l[d.n(len(l))] }

// someValue is of one to four pieces, most of which may be in some Value.
func someValue(d *die) (s string) {
	for range d.n(4) + 1 {
		s += pick(d, "text/plain", "Text/PLAIN", "multipart/form-data", "application/x-www-form-urlencoded", "text/html", "en", ", de", ";", ";q=0.5", " ", "\t", "*", "-", ".", "", "/", "é", "\xff", strings.Repeat("v", 60), strings.Repeat("v", d.n(130)), fmt.Sprintf("%c", d.n(128)))
	}
	return s
}

// TestDrawnRequests: many requests of pieces, against the rules.
func TestDrawnRequests(t *testing.T) {
	d := die(8)
	for range 20_000 {
		r := api.Request{Part: d.n(6) - 1, Method: pick(&d, "GET", "get", "Head", "PATCH", "pOST", "put", "OPTIONS", "delete", "", "a b", "x")}
		for range d.n(9) {
			r.Heads = append(r.Heads, api.Param{Name: pick(&d, "Accept", "accept", "Accept-Language", "Content-Language", "content-language", "Content-Type", "CONTENT-TYPE", "X-A", "x-a", "Authorization", "", "a b"), Value: someValue(&d)})
		}
		wantAll(t, r)
	}
}

// TestDrawnTogether: many rows whose Values have about 1024 bytes.
func TestDrawnTogether(t *testing.T) {
	d := die(9)
	for range 5000 {
		var l []api.Param
		for range 10 {
			l = append(l, api.Param{Name: pick(&d, "Accept", "ACCEPT", "Accept-Language", "Content-Language", "X-A"), Value: strings.Repeat("v", 90+d.n(41))})
		}
		wantAsked(t, l, ruleAsked(l)...)
	}
}

// TestRulesOfNames: each byte in each place of a name that is known, and of a method.
func TestRulesOfNames(t *testing.T) {
	for _, name := range append(slices.Clone(plainNames), "GET", "DELETE", "options") {
		for c := range 256 {
			for i := range len(name) + 1 {
				wantOneName(t, name[:i]+one(c)+name[i:])
				if i < len(name) {
					wantOneName(t, name[:i]+one(c)+name[i+1:])
				}
			}
		}
	}
}

// wantOneName asks of a text as a name and as a method.
func wantOneName(t *testing.T, s string) {
	t.Helper()
	wantAll(t, api.Request{Method: s, Heads: []api.Param{{Name: s, Value: "text/plain"}}})
}

func FuzzFetch(f *testing.F) {
	for _, s := range []string{"", "text/plain", " text/plain\t;a", "en, de", "\xff"} {
		f.Add(0, "get", "Accept", "content-type", s, 1)
		f.Add(3, "PATCH", "content-language", "X-A", s, 700)
	}
	f.Fuzz(func(t *testing.T, part int, method, one, two, value string, n int) {
		r := api.Request{Part: part, Method: method}
		for i := range n & 63 {
			r.Heads = append(r.Heads, api.Param{Name: []string{one, two}[i%2], Value: value})
		}
		wantAll(t, r)
	})
}
