package ask

import (
	"regexp"
	"slices"
	"strings"
	"testing"
	"unsafe"

	"gatepost/api"
	"gatepost/plain"
)

// The document's forms, told once more by other means. Texts are made a rune a byte for these (see runes), so that every byte is one of theirs.
const (
	wordRule = "[0-9A-Za-z!#$%&'*+\\-.^_|~\x60]+"
	markRule = `"(?:[\x09\x20-\x21\x23-\x5b\x5d-\x7e\x{80}-\x{ff}]|\\[\x09\x20-\x7e\x{80}-\x{ff}])*"`
)

var (
	gapsForm   = regexp.MustCompile(`\A[ \t,]*`)
	schemeForm = regexp.MustCompile(`\A(` + wordRule + `)([ \t]*)(,|\z)?`)
	tokenForm  = regexp.MustCompile(`\A([A-Za-z0-9\-._~+/]+=*)[ \t]*(?:,|\z)`)
	// As much of a parameter as there is: it ends where what is missing should stand.
	paramForm  = regexp.MustCompile(`\A(?:(` + wordRule + `)[ \t]*(?:=[ \t]*(?:(` + wordRule + `|` + markRule + `)[ \t]*(,|\z)?)?)?)?`)
	moreForm   = regexp.MustCompile(`\A` + wordRule + `[ \t]*=`)
	escapeForm = regexp.MustCompile(`\\(.)`)
)

// runes is a text with a rune for each byte; unrunes is back.
func runes(s string) string {
	out := make([]rune, len(s))
	for i := range len(s) {
		out[i] = rune(s[i])
	}
	return string(out)
}

func unrunes(s string) string {
	var out []byte
	for _, r := range s {
		out = append(out, byte(r))
	}
	return string(out)
}

// rule is a header that is read by its forms.
type rule struct {
	text  string // a rune a byte
	place int    // how many bytes are read
	err   api.Errno
}

// skip goes over bytes that were matched.
func (r *rule) skip(match string) {
	r.text = r.text[len(match):]
	r.place += len([]rune(match))
}

// fail tells an error some bytes from here on, unless one was told.
func (r *rule) fail(e api.Errno, match string) {
	if r.err == api.OK {
		r.err, r.place = e, r.place+len([]rune(match))
	}
}

// ruleParse is Parse by its forms; the place is -1 where none is told.
func ruleParse(s string) (l []api.Challenge, e api.Errno, place int) {
	if len(s) > 3000 {
		return nil, api.ErrLimit, -1
	}
	r := &rule{text: runes(s)}
	for r.skip(gapsForm.FindString(r.text)); r.text != ""; r.skip(gapsForm.FindString(r.text)) {
		l = append(l, r.challenge(len(l)))
		if r.err != api.OK {
			return nil, r.err, r.place
		}
	}
	return l, api.OK, -1
}

func (r *rule) challenge(ahead int) (x api.Challenge) {
	m := schemeForm.FindStringSubmatchIndex(r.text)
	if m == nil {
		r.fail(api.ErrForm, "")
		return x
	}
	if ahead == 8 {
		r.fail(api.ErrLimit, "")
		return x
	}
	x.Scheme = unrunes(r.text[:m[3]])
	over, apart := m[6] >= 0, m[5] > m[4]
	r.skip(r.text[:m[5]])
	if over {
		return x
	}
	if !apart {
		r.fail(api.ErrForm, "")
		return x
	}
	if m := tokenForm.FindStringSubmatch(r.text); m != nil {
		x.Token = unrunes(m[1])
		r.skip(m[0])
		return x
	}
	for more := true; more && r.err == api.OK; more = moreForm.MatchString(r.text) {
		x.Params = append(x.Params, r.param(x.Params))
	}
	return x
}

func (r *rule) param(ahead []api.Param) (p api.Param) {
	m := paramForm.FindStringSubmatchIndex(r.text)
	valued, over := m[4] >= 0, m[6] >= 0
	if !valued {
		r.fail(api.ErrForm, r.text[:m[1]])
		return p
	}
	p = api.Param{Name: unrunes(r.text[m[2]:m[3]]), Value: ruleValue(r.text[m[4]:m[5]])}
	for _, q := range ahead {
		if strings.EqualFold(p.Name, q.Name) {
			r.fail(api.ErrTwice, "")
		}
	}
	if len(ahead) == 16 {
		r.fail(api.ErrLimit, "")
	}
	if !over {
		r.fail(api.ErrForm, r.text[:m[1]])
	}
	if r.err == api.OK {
		r.skip(r.text[:m[1]])
		r.skip(gapsForm.FindString(r.text))
	}
	return p
}

// ruleValue is a value without its marks, if it has them.
func ruleValue(s string) string {
	if !strings.HasPrefix(s, `"`) {
		return unrunes(s)
	}
	return unrunes(escapeForm.ReplaceAllString(s[1:len(s)-1], "$1"))
}

// bare is a challenge of a scheme, perhaps with a Token.
func bare(scheme, text string) api.Challenge { return api.Challenge{Scheme: scheme, Token: text} }

// with is a challenge with parameters: a name, a value, and so on.
func with(scheme string, pairs ...string) api.Challenge {
	x := api.Challenge{Scheme: scheme}
	for i := 0; i < len(pairs); i += 2 {
		x.Params = append(x.Params, api.Param{Name: pairs[i], Value: pairs[i+1]})
	}
	return x
}

func sameChallenge(x, y api.Challenge) bool {
	return x.Scheme == y.Scheme && x.Token == y.Token && slices.Equal(x.Params, y.Params)
}

func sameAsk(a, b api.Ask) bool {
	return a.Scheme == b.Scheme && a.Realm == b.Realm && a.Nonce == b.Nonce && a.Opaque == b.Opaque &&
		a.Sess == b.Sess && a.Qop == b.Qop && a.Stale == b.Stale && slices.Equal(a.Domain, b.Domain)
}

// wantErr asks that an error came out as it is told, at its place (-1: without one).
func wantErr(t *testing.T, call string, in any, err error, want api.Errno, at int) {
	t.Helper()
	if e, place := plain.Place(err); e != want || place != at {
		t.Errorf("%s(%.200q): %v (place %d); want %v (place %d)", call, in, err, place, want, at)
	}
}

// wantParse asks Parse; with an error nothing is to stand beside it.
func wantParse(t *testing.T, s string, want []api.Challenge, e api.Errno, at int) {
	t.Helper()
	got, err := Parse(s)
	wantErr(t, "Parse", s, err, e, at)
	if !slices.EqualFunc(got, want, sameChallenge) {
		t.Errorf("Parse(%.200q) = %.400q; want %.400q", s, got, want)
	}
}

// wantRule asks Parse as its forms tell it.
func wantRule(t *testing.T, s string) {
	t.Helper()
	l, e, place := ruleParse(s)
	wantParse(t, s, l, e, place)
}

// wantPrint asks Print; below 0: it can be told, else ErrForm of that number, and beside it nothing.
func wantPrint(t *testing.T, l []api.Challenge, want string, number int) {
	t.Helper()
	e := api.OK
	if number >= 0 {
		e = api.ErrForm
	}
	got, err := Print(l)
	wantErr(t, "Print", l, err, e, number)
	if got != want {
		t.Errorf("Print(%.200q) = %.400q; want %.400q", l, got, want)
	}
}

func wantGet(t *testing.T, x api.Challenge, name, want string, ok bool) {
	t.Helper()
	if got, is := Get(x, name); got != want || is != ok {
		t.Errorf("Get(%.200q, %q) = %q, %v; want %q, %v", x, name, got, is, want, ok)
	}
}

func wantKnown(t *testing.T, x api.Challenge, want api.Ask, ok bool) {
	t.Helper()
	if got, is := Known(x); !sameAsk(got, want) || is != ok {
		t.Errorf("Known(%.200q) = %+v, %v; want %+v, %v", x, got, is, want, ok)
	}
}

func wantBest(t *testing.T, l []api.Challenge, want api.Ask, ok bool) {
	t.Helper()
	if got, is := Best(l); !sameAsk(got, want) || is != ok {
		t.Errorf("Best(%.300q) = %+v, %v; want %+v, %v", l, got, is, want, ok)
	}
}

// each calls try with every text of at most most of some pieces.
func each(pieces []string, most int, try func(string)) {
	var more func(s string, left int)
	more = func(s string, left int) {
		try(s)
		if left == 0 {
			return
		}
		for _, p := range pieces {
			more(s+p, left-1)
		}
	}
	more("", most)
}

// apart asks that two texts share no memory.
func apart(t *testing.T, call, in, out string) {
	t.Helper()
	if in == "" || out == "" {
		return
	}
	began, first := uintptr(unsafe.Pointer(unsafe.StringData(in))), uintptr(unsafe.Pointer(unsafe.StringData(out)))
	if first < began+uintptr(len(in)) && began < first+uintptr(len(out)) {
		t.Errorf("%s: %q of %q is not fresh memory", call, out, in)
	}
}
