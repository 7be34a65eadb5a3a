package cors

import (
	"fmt"
	"math/big"
	"regexp"
	"slices"
	"strings"
	"testing"

	"gatepost/api"
	"gatepost/fetch"
)

// The document's rules, told once more by other means. Texts are made a rune a byte for these forms (see runes), so that every byte is one of theirs.
var (
	lineForm   = regexp.MustCompile(`(?s)\A([!#-'*+\-.0-9A-Z^-z|~]+):[\t\x20]*(.*?)[\t\x20]*\r?\z`)
	listForm   = regexp.MustCompile(`\A[\t\x20]*[!#-'*+\-.0-9A-Z^-z|~]*[\t\x20]*(?:,[\t\x20]*[!#-'*+\-.0-9A-Z^-z|~]*[\t\x20]*)*\z`)
	wordForm   = regexp.MustCompile(`[!#-'*+\-.0-9A-Z^-z|~]+`)
	numberForm = regexp.MustCompile(`\A[0-9]+\z`)
)

// runes is a text with a rune for each byte; unrunes is back.
func runes(s string) string {
	out := make([]rune, len(s))
	for i := range len(s) {
		out[i] = rune(s[i])
	}
	return string(out)
}

func unrunes(s string) string {
	var out []byte
	for _, r := range s {
		out = append(out, byte(r))
	}
	return string(out)
}

// ruleLower takes great letters of ASCII away, one kind after the other.
func ruleLower(s string) string {
	for c := byte('A'); c <= 'Z'; c++ {
		s = strings.ReplaceAll(s, string([]byte{c}), string([]byte{c + 32}))
	}
	return s
}

// ruleFields takes one line after the other from the text's beginning, each by a form; the place is -1 where none is told.
func ruleFields(s string) (out []api.Param, e api.Errno, place int) {
	if len(s) >= 3001 {
		return nil, api.ErrLimit, -1
	}
	for line := 0; s != ""; line++ {
		text, rest, _ := strings.Cut(s, "\n")
		s = rest
		if text == "" || text == "\r" {
			continue
		}
		m := lineForm.FindStringSubmatch(runes(text))
		switch {
		case m == nil:
			return nil, api.ErrForm, line
		case len(out) > 39:
			return nil, api.ErrLimit, -1
		}
		out = append(out, api.Param{Name: unrunes(m[1]), Value: unrunes(m[2])})
	}
	return out, api.OK, -1
}

// ruleGet joins all values of a name.
func ruleGet(l []api.Param, name string) (string, bool) {
	var values []string
	for _, p := range l {
		if ruleLower(p.Name) == ruleLower(name) {
			values = append(values, p.Value)
		}
	}
	return strings.Join(values, ", "), len(values) > 0
}

func ruleText(o api.Origin) string {
	scheme, port := "http", 80
	if o.Secure {
		scheme, port = "https", 443
	}
	return strings.TrimSuffix(fmt.Sprintf("%s://%s:%d", scheme, o.Host, o.Port), fmt.Sprintf(":%d", port))
}

// ruleMay is which values are good enough, by the row of the table in which the request is.
func ruleMay(r api.Request, l []api.Param) bool {
	origin, told := ruleGet(l, "access-control-allow-origin")
	with, _ := ruleGet(l, "access-control-allow-credentials")
	if r.With {
		return told && origin+" "+with == ruleText(r.From)+" true"
	}
	return told && slices.Contains([]string{"*", ruleText(r.From)}, origin)
}

func ruleAge(l []api.Param) int {
	s, _ := ruleGet(l, "access-control-max-age")
	if !numberForm.MatchString(runes(s)) {
		return 5
	}
	n, _ := new(big.Int).SetString(s, 10)
	if n.Cmp(big.NewInt(600)) > 0 {
		return 600
	}
	return int(n.Int64())
}

// ruleList is the words of a field's list, each once; false: it can't be read.
func ruleList(l []api.Param, name string) (out []string, ok bool) {
	s, _ := ruleGet(l, name)
	words := wordForm.FindAllString(runes(s), -1)
	if !listForm.MatchString(runes(s)) || len(words) > 40 {
		return nil, false
	}
	seen := map[string]int{}
	for _, w := range words {
		if seen[w]++; seen[w] == 1 {
			out = append(out, w)
		}
	}
	return out, true
}

func ruleGrant(r api.Request, l []api.Param, now int) ([]api.Pass, api.Errno) {
	methods, ok := ruleList(l, "access-control-allow-methods")
	// Names are made small ahead of taking them once.
	small := slices.Clone(l)
	for i := range small {
		if ruleLower(small[i].Name) == "access-control-allow-headers" {
			small[i].Value = ruleLower(small[i].Value)
		}
	}
	heads, is := ruleList(small, "access-control-allow-headers")
	if !ok || !is {
		return nil, api.ErrForm
	}
	if methods == nil {
		methods = []string{fetch.Method(r.Method)}
	}
	var out []api.Pass
	until := now + ruleAge(l)
	for _, m := range methods {
		out = append(out, api.Pass{From: r.From, URL: r.URL, With: r.With, Method: m, Until: until})
	}
	for _, h := range heads {
		out = append(out, api.Pass{From: r.From, URL: r.URL, With: r.With, Head: h, Until: until})
	}
	if !ruleMay(r, l) || !ruleCovers(r, out) {
		return nil, api.ErrState
	}
	return out, api.OK
}

// ruleCovers takes away from what is to be covered what each Pass covers: nothing is to be left.
func ruleCovers(r api.Request, l []api.Pass) bool {
	left := map[string]int{}
	method := fetch.Method(r.Method)
	if !slices.Contains([]string{"GET", "HEAD", "POST"}, method) {
		left["method "+method]++
	}
	for _, name := range fetch.Asked(r.Heads) {
		left["name "+name]++
	}
	for _, p := range l {
		delete(left, "method "+p.Method)
		delete(left, "name "+p.Head)
		for what := range left {
			isMethod := strings.HasPrefix(what, "method ")
			if !r.With && (isMethod && p.Method == "*" || !isMethod && p.Head == "*" && what != "name authorization") {
				delete(left, what)
			}
		}
	}
	return len(left) == 0
}

func ruleNeeds(r api.Request) bool {
	a, b := r.From, r.URL.Origin
	return (a.Secure != b.Secure || a.Host != b.Host || a.Port != b.Port) && !ruleCovers(r, nil)
}

// wantAll asks all of the package of a request and a text, against the rules.
func wantAll(t *testing.T, r api.Request, text string, now int) {
	t.Helper()
	l, e, place := ruleFields(text)
	wantFields(t, text, l, e, place)
	wantAnswer(t, r, l, now)
}

func wantAnswer(t *testing.T, r api.Request, l []api.Param, now int) {
	t.Helper()
	for _, p := range l {
		want, ok := ruleGet(l, p.Name)
		wantGet(t, l, strings.ToUpper(p.Name), want, ok)
	}
	wantMay(t, r, l, ruleMay(r, l))
	wantAge(t, l, ruleAge(l))
	passes, e := ruleGrant(r, l, now)
	wantGrant(t, r, l, now, passes, e)
	for _, row := range [][]api.Pass{passes, nil, methodPasses("*"), headPasses("*")} {
		wantCovers(t, r, row, ruleCovers(r, row))
	}
	wantNeeds(t, r, ruleNeeds(r))
}

// each calls try with every text of at most most of some pieces.
func each(pieces []string, most int, try func(string)) {
	var more func(s string, left int)
	more = func(s string, left int) {
		try(s)
		if left == 0 {
			return
		}
		for _, p := range pieces {
			more(s+p, left-1)
		}
	}
	more("", most)
}

// TestFieldsOfAllShortTexts: all texts of some pieces, against the rules.
func TestFieldsOfAllShortTexts(t *testing.T) {
	each([]string{"a", ":", " ", "\r", "\n", "\t", "(", "\xff"}, 5, func(s string) {
		want, e, at := ruleFields(s)
		wantFields(t, s, want, e, at)
	})
	each([]string{"a", ":", " ", "\r", "\n"}, 7, func(s string) {
		want, e, at := ruleFields(s)
		wantFields(t, s, want, e, at)
	})
}

// TestListsOfAllShortTexts: all lists of some pieces, in both fields, against the rules.
func TestListsOfAllShortTexts(t *testing.T) {
	r := ask(false, "a", "a")
	each([]string{"a", "B", "*", ",", " ", "="}, 5, func(s string) {
		for _, l := range [][]api.Param{
			answer("Access-Control-Allow-Methods", s, "Access-Control-Allow-Headers", "a"),
			answer("Access-Control-Allow-Headers", s, "Access-Control-Allow-Methods", "b,a"),
			answer("Access-Control-Allow-Headers", s, "Access-Control-Allow-Methods", s),
		} {
			passes, e := ruleGrant(r, l, 9)
			wantGrant(t, r, l, 9, passes, e)
		}
	})
}

// die: numbers that look drawn, the same each time.
type die uint64

func (d *die) n(most int) int {
	*d = *d*6364136223846793005 + 1442695040888963407
	return int(uint64(*d>>33) % uint64(most))
}

func pick(d *die, l ...string) string { return l[d.n(len(l))] }

func someOrigin(d *die) api.Origin {
	return api.Origin{Secure: d.n(4) > 0, Host: pick(d, "a.test", "a.test", "b.test", "c.test"), Port: []int{443, 443, 443, 80, 8080}[d.n(5)]}
}

// someRequest comes mostly from few origins, with few headers.
func someRequest(d *die) api.Request {
	r := api.Request{Part: d.n(4), From: someOrigin(d), URL: api.URL{Origin: someOrigin(d), Path: pick(d, "/", "/a/b"), Query: pick(d, "", "q")}, Method: pick(d, "GET", "get", "PUT", "put", "patch", "DELETE", "*", "a b", ""), With: d.n(3) == 0}
	for range d.n(4) {
		r.Heads = append(r.Heads, api.Param{Name: pick(d, "X-A", "x-a", "x-b", "Authorization", "Accept", "Content-Type", "*", ""), Value: pick(d, "v", "text/plain", "(")})
	}
	return r
}

// someWords is a list of mostly few words, some of which are no list.
func someWords(d *die, l ...string) (s string) {
	for range d.n(6) {
		s += pick(d, l...) + pick(d, ",", ", ", " ,", ",,", ",\t,")
	}
	return s + pick(d, "", l[d.n(len(l))], l[d.n(len(l))], l[d.n(len(l))]+" "+l[0], strings.Repeat("w,", d.n(45)))
}

// someAnswer is fields in lines, mostly those that count, some of which have another form.
func someAnswer(d *die, r api.Request) (s string) {
	end := pick(d, "\n", "\r\n")
	for range d.n(7) {
		switch d.n(8) {
		case 0, 1:
			s += pick(d, "Access-Control-Allow-Origin", "access-control-allow-origin") + ": " + pick(d, "*", ruleText(r.From), ruleText(r.From), ruleText(r.URL.Origin), "null")
		case 2:
			s += "Access-Control-Allow-Credentials:" + pick(d, "true", " true", "true\t", "TRUE", "false", "")
		case 3, 4:
			s += "Access-Control-Allow-Methods:" + pick(d, "", " ") + someWords(d, "PUT", "put", "patch", "GET", "*", "DELETE")
		case 5, 6:
			s += "Access-Control-Allow-HEADERS:" + pick(d, "", "\t") + someWords(d, "x-a", "X-A", "x-b", "*", "authorization", "Authorization", "content-type")
		case 7:
			s += "Access-Control-Max-Age:" + pick(d, "0", "7", " 20 ", "600", "601", "x", "", "5, 6", fmt.Sprint(d.n(700)))
		}
		s += pick(d, end, end, end, end+end, "\n \n", "\nx"+end, "\r")
	}
	return s + pick(d, "", "", "", "x", end, "X: y")
}

// TestDrawnAnswers: many answers to many requests, against the rules; all that may come out comes out often.
func TestDrawnAnswers(t *testing.T) {
	d := die(9)
	count := map[api.Errno]int{}
	for range 60_000 {
		r := someRequest(&d)
		text := someAnswer(&d, r)
		now := d.n(1000)
		wantAll(t, r, text, now)
		if l, e, _ := ruleFields(text); e == api.OK {
			_, g := ruleGrant(r, l, now)
			count[g]++
		} else {
			count[-e]++
		}
	}
	for _, e := range []api.Errno{api.OK, api.ErrForm, api.ErrState, -api.ErrForm} {
		if count[e] < 500 {
			t.Errorf("%d of error %d were drawn", count[e], e)
		}
	}
}

// TestDrawnCovers: many rows of Passes, against the rules.
func TestDrawnCovers(t *testing.T) {
	d := die(10)
	count := map[bool]int{}
	for range 60_000 {
		r := someRequest(&d)
		var l []api.Pass
		for range d.n(8) {
			p := api.Pass{From: someOrigin(&d), With: d.n(2) == 0, Until: d.n(9)}
			if d.n(2) == 0 {
				p.Method = pick(&d, "PUT", "put", "patch", "DELETE", "*", "a b", "GET", "")
			}
			if p.Method == "" || d.n(20) == 0 {
				p.Head = pick(&d, "x-a", "X-A", "x-b", "authorization", "content-type", "accept", "*", "")
			}
			l = append(l, p)
		}
		wantCovers(t, r, l, ruleCovers(r, l))
		count[ruleCovers(r, l)]++
	}
	if count[true] < 5000 || count[false] < 5000 {
		t.Errorf("%v were drawn", count)
	}
}

func FuzzCors(f *testing.F) {
	for _, s := range []string{"", "a:b\r\nc: d\n", "Access-Control-Allow-Origin: *\nAccess-Control-Allow-Methods: PUT", "Access-Control-Allow-Origin: https://a.test\nAccess-Control-Allow-Credentials: true\nAccess-Control-Allow-Headers: x, *\nAccess-Control-Max-Age: 20", ":\n\n"} {
		f.Add(s, "PUT", "x", "v", "a.test", false, 1)
		f.Add(s, "get", "Authorization", "", "a.test", true, 1<<40)
	}
	f.Fuzz(func(t *testing.T, text, method, name, value, host string, with bool, now int) {
		r := api.Request{From: api.Origin{Secure: true, Host: host, Port: 443}, URL: goal, Method: method, Heads: pairs(name, value), With: with}
		wantAll(t, r, text, now&(1<<40-1))
	})
}
