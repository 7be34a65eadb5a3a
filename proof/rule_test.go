package proof

import (
	"crypto/md5"
	"crypto/sha256"
	"fmt"
	"regexp"
	"strings"
	"testing"
	"unsafe"

	"gatepost/api"
	"gatepost/plain"
)

// request is all that Response and Digest are asked with.
type request struct {
	a                            api.Ask
	c                            api.Creds
	method, target, body, cnonce string
	n                            int
}

func (r request) response() string {
	return Response(r.a, r.c, r.method, r.target, r.body, r.cnonce, r.n)
}

func (r request) digest() (string, error) {
	return Digest(r.a, r.c, r.method, r.target, r.body, r.cnonce, r.n)
}

// String is for what a test tells.
func (r request) String() string {
	return fmt.Sprintf("%q, %q %q, sess %v, %q %q %q, %q %q %q %q, %d, of scheme %d", r.a.Qop, r.c.User, r.c.Pass, r.a.Sess, r.a.Realm, r.a.Nonce, r.a.Opaque, r.method, r.target, r.body, r.cnonce, r.n, r.a.Scheme)
}

// with is the request, changed.
func (r request) with(change func(*request)) request {
	change(&r)
	return r
}

// mufasa is the example of RFC 2617, 3.5.
func mufasa() request {
	return request{
		a:      api.Ask{Scheme: api.DigestMD5, Realm: "testrealm@host.com", Nonce: "dcd98b7102dd2f0e8b11d0f600bfb0c093", Opaque: "5ccc069c403ebaf9f0171e9517f40e41", Qop: "auth"},
		c:      api.Creds{User: "Mufasa", Pass: "Circle Of Life"},
		method: "GET", target: "/dir/index.html", cnonce: "0a4f113b", n: 1,
	}
}

// letters is a request with a text of its own in each place.
func letters(scheme int, qop string, sess bool) request {
	return request{
		a:      api.Ask{Scheme: scheme, Realm: "r", Nonce: "n", Opaque: "o", Sess: sess, Qop: qop},
		c:      api.Creds{User: "u", Pass: "p"},
		method: "M", target: "/t", body: "b", cnonce: "c", n: 0x2a,
	}
}

// everyWay calls try with each scheme that is known, each qop that is, and with Sess and without.
func everyWay(try func(request)) {
	for _, scheme := range []int{api.DigestMD5, api.DigestSHA} {
		for _, qop := range []string{"", "auth", "auth-int"} {
			for _, sess := range []bool{false, true} {
				try(letters(scheme, qop, sess))
			}
		}
	}
}

// place is one of a request's texts.
type place struct {
	name string
	text func(*request) *string
}

// quotedPlaces are the texts that stand between marks; the last two may be left out.
func quotedPlaces() []place {
	return []place{
		{"user", func(r *request) *string { return &r.c.User }},
		{"realm", func(r *request) *string { return &r.a.Realm }},
		{"nonce", func(r *request) *string { return &r.a.Nonce }},
		{"target", func(r *request) *string { return &r.target }},
		{"cnonce", func(r *request) *string { return &r.cnonce }},
		{"opaque", func(r *request) *string { return &r.a.Opaque }},
	}
}

// otherPlaces are the texts that are summed alone.
func otherPlaces() []place {
	return []place{
		{"pass", func(r *request) *string { return &r.c.Pass }},
		{"method", func(r *request) *string { return &r.method }},
		{"body", func(r *request) *string { return &r.body }},
	}
}

// The document's rules, told once more by other means.

var (
	controls = regexp.MustCompile(`[\x00-\x1f\x7f]`)
	unquoted = regexp.MustCompile(`[\x00-\x08\x0a-\x1f\x7f]`)
	escaped  = strings.NewReplacer(`"`, `\"`, `\`, `\\`)
)

// hash is H of a text that has its colons.
func (r request) hash(format string, texts ...any) string {
	text := fmt.Appendf(nil, format, texts...)
	if r.a.Scheme == 3 {
		return fmt.Sprintf("%x", sha256.Sum256(text))
	}
	return fmt.Sprintf("%x", md5.Sum(text))
}

func (r request) ruleResponse() string {
	one := r.hash("%s:%s:%s", r.c.User, r.a.Realm, r.c.Pass)
	if r.a.Sess {
		one = r.hash("%s:%s:%s", one, r.a.Nonce, r.cnonce)
	}
	two := r.hash("%s:%s", r.method, r.target)
	switch r.a.Qop {
	case "":
		return r.hash("%s:%s:%s", one, r.a.Nonce, two)
	case "auth-int":
		two = r.hash("%s:%s:%s", r.method, r.target, r.hash("%s", r.body))
	}
	return r.hash("%s:%s:%08x:%s:%s:%s", one, r.a.Nonce, r.n, r.cnonce, r.a.Qop, two)
}

func (r request) ruleDigest() (string, api.Errno) {
	known := map[string]string{"/2": "MD5", "/3": "SHA-256", "auth/2": "MD5", "auth/3": "SHA-256", "auth-int/2": "MD5", "auth-int/3": "SHA-256"}
	algorithm := known[fmt.Sprint(r.a.Qop, "/", r.a.Scheme)]
	if algorithm == "" {
		return "", api.ErrArg
	}
	if r.n <= 0 || r.n > 4294967295 {
		return "", api.ErrRange
	}
	if r.a.Sess {
		algorithm += "-sess"
	}
	quoted := []string{r.c.User, r.a.Realm, r.a.Nonce, r.target, r.ruleResponse()}
	form := `Digest username="%s", realm="%s", nonce="%s", uri="%s", response="%s", algorithm=` + algorithm
	if r.a.Qop != "" {
		form += fmt.Sprintf(", qop=%s, nc=%08x", r.a.Qop, r.n)
	}
	if r.a.Qop != "" || r.a.Sess {
		form, quoted = form+`, cnonce="%s"`, append(quoted, r.cnonce)
	}
	if r.a.Opaque != "" {
		form, quoted = form+`, opaque="%s"`, append(quoted, r.a.Opaque)
	}
	var marked []any
	for _, s := range quoted {
		if unquoted.MatchString(s) {
			return "", api.ErrForm
		}
		marked = append(marked, escaped.Replace(s))
	}
	return fmt.Sprintf(form, marked...), api.OK
}

// wantErr asks that an error came out as it is told, without a place.
func wantErr(t *testing.T, call string, in any, err error, want api.Errno) {
	t.Helper()
	if e, at := plain.Place(err); e != want || at != -1 {
		t.Errorf("%s(%.300v): %v (place %d); want %v (place -1)", call, in, err, at, want)
	}
}

// wantBasic asks Basic; with an error nothing is to stand beside it.
func wantBasic(t *testing.T, c api.Creds, want string, e api.Errno) {
	t.Helper()
	got, err := Basic(c)
	wantErr(t, "Basic", c, err, e)
	if got != want {
		t.Errorf("Basic(%.300q) = %.300q; want %.300q", c, got, want)
	}
}

func wantResponse(t *testing.T, r request, want string) {
	t.Helper()
	if got := r.response(); got != want {
		t.Errorf("Response(%.300s) = %q; want %q", r, got, want)
	}
}

// wantDigest asks Digest; with an error nothing is to stand beside it.
func wantDigest(t *testing.T, r request, want string, e api.Errno) {
	t.Helper()
	got, err := r.digest()
	wantErr(t, "Digest", r, err, e)
	if got != want {
		t.Errorf("Digest(%.300s) = %.600q; want %.600q", r, got, want)
	}
}

// wantRule asks Response and Digest as their rules tell it.
func wantRule(t *testing.T, r request) {
	t.Helper()
	wantResponse(t, r, r.ruleResponse())
	want, e := r.ruleDigest()
	wantDigest(t, r, want, e)
}

// apart asks that two texts share no memory.
func apart(t *testing.T, call, in, out string) {
	t.Helper()
	if in == "" || out == "" {
		return
	}
	began, first := uintptr(unsafe.Pointer(unsafe.StringData(in))), uintptr(unsafe.Pointer(unsafe.StringData(out)))
	if first < began+uintptr(len(in)) && began < first+uintptr(len(out)) {
		t.Errorf("%s: %q of %q is not fresh memory", call, out, in)
	}
}
