package world

import (
	"fmt"
	"math/rand"
	"reflect"
	"regexp"
	"slices"
	"strings"
	"testing"

	"gatepost/api"
	"gatepost/ask"
	"gatepost/bank"
	"gatepost/cors"
	"gatepost/proof"
	"gatepost/url"
)

// telling is what can be asked what it has.
type telling interface {
	Now() int
	Grants(part int) []api.Grant
	Waits(part int) []bank.Wait
	Passes(part int) []api.Pass
	Certs(part int) []Cert
}

// tellOrigin and its likes are what a test holds against each other: an empty list is one, nil or not.
func tellOrigin(o api.Origin) string { return fmt.Sprintf("%t %q %d", o.Secure, o.Host, o.Port) }

func tellURL(u api.URL) string {
	return fmt.Sprintf("%s %q %q", tellOrigin(u.Origin), u.Path, u.Query)
}

func tellAsk(a api.Ask) string {
	return fmt.Sprintf("ask %d %q %q %q %t %q %t %q", a.Scheme, a.Realm, a.Nonce, a.Opaque, a.Sess, a.Qop, a.Stale, a.Domain)
}

func tellGrant(g api.Grant) string {
	return fmt.Sprintf("grant %s %t %q %q, %s, count %d, paths %q", tellOrigin(g.Origin), g.Proxy, g.Creds.User, g.Creds.Pass, tellAsk(g.Ask), g.Count, g.Paths)
}

func tellWait(w bank.Wait) string {
	return fmt.Sprintf("wait %s %t %q, %s", tellOrigin(w.Origin), w.Proxy, w.Path, tellAsk(w.Ask))
}

func tellPass(p api.Pass) string {
	return fmt.Sprintf("pass %s > %s with %t method %q head %q until %d", tellOrigin(p.From), tellURL(p.URL), p.With, p.Method, p.Head, p.Until)
}

func tellCert(c Cert) string { return fmt.Sprintf("cert %s = %d", tellOrigin(c.Origin), c.N) }

// each is a line of each thing of a list.
func each[T any](tell func(T) string, l []T) (out string) {
	for _, x := range l {
		out += tell(x) + "\n"
	}
	return out
}

func tellBank(w telling, part int) string {
	return each(tellGrant, w.Grants(part)) + each(tellWait, w.Waits(part))
}

func tellBook(w telling, part int) string { return each(tellPass, w.Passes(part)) }

func tellCerts(w telling, part int) string { return each(tellCert, w.Certs(part)) }

func tellPart(w telling, part int) string {
	return tellBank(w, part) + tellBook(w, part) + tellCerts(w, part)
}

// tell is all that there is.
func tell(w telling) string {
	out := fmt.Sprintf("now %d\n", w.Now())
	for part := range 4 {
		out += fmt.Sprintf("part %d\n%s", part, tellPart(w, part))
	}
	return out
}

// same asks whether two texts are the same.
func same(t *testing.T, what, got, want string) {
	t.Helper()
	if got != want {
		t.Errorf("%.600s: %s\nwant: %s", what, got, want)
	}
}

// thing is a grant, a wait, a pass or a Cert of a partition; the key tells which other one it takes the place of.
type thing struct {
	kind, key string
	part      int
	origin    string
	it        any
}

// ruleWorld is a world told by other means: all things of all partitions in one row, with texts that tell them apart.
type ruleWorld struct {
	now    int
	things []thing
}

// pull takes things out of the row.
func (r *ruleWorld) pull(found func(thing) bool) (gone []thing) {
	var left []thing
	for _, x := range r.things {
		if found(x) {
			gone = append(gone, x)
		} else {
			left = append(left, x)
		}
	}
	r.things = left
	return gone
}

// of are the things of a kind and partition.
func (r *ruleWorld) of(kind string, part int) []thing {
	c := ruleWorld{things: r.things}
	return c.pull(func(x thing) bool { return x.kind == kind && x.part == part })
}

// lay puts a thing down, in the place of one of its key.
func (r *ruleWorld) lay(x thing) {
	r.pull(func(y thing) bool { return y.kind == x.kind && y.part == x.part && y.key == x.key })
	r.things = append(r.things, x)
}

// most takes the first things of a kind away, while there are too many.
func (r *ruleWorld) most(kind string, part, n int) {
	for l := r.of(kind, part); len(l) > n; l = l[1:] {
		r.pull(func(y thing) bool { return y.kind == kind && y.part == part && y.key == l[0].key })
	}
}

func all[T any](r *ruleWorld, kind string, part int) (l []T) {
	for _, x := range r.of(kind, part) {
		l = append(l, x.it.(T))
	}
	return l
}

func (r *ruleWorld) Now() int                    { return r.now }
func (r *ruleWorld) Grants(part int) []api.Grant { return all[api.Grant](r, "grant", part) }
func (r *ruleWorld) Waits(part int) []bank.Wait  { return all[bank.Wait](r, "wait", part) }
func (r *ruleWorld) Passes(part int) []api.Pass  { return all[api.Pass](r, "pass", part) }
func (r *ruleWorld) Certs(part int) []Cert       { return all[Cert](r, "cert", part) }
func (r *ruleWorld) Copy() *ruleWorld            { return &ruleWorld{r.now, slices.Clone(r.things)} }

func grantKey(o api.Origin, proxy bool, realm string) string {
	return fmt.Sprintf("%s %t %q", tellOrigin(o), proxy, realm)
}

func (r *ruleWorld) layGrant(part int, g api.Grant) {
	r.lay(thing{"grant", grantKey(g.Origin, g.Proxy, g.Ask.Realm), part, tellOrigin(g.Origin), g})
	r.most("grant", part, 8)
}

func (r *ruleWorld) pullGrant(part int, key string) []thing {
	return r.pull(func(x thing) bool { return x.kind == "grant" && x.part == part && x.key == key })
}

// find looks for spaces that are the beginnings of the path, the longest one first, and asks the youngest grant first.
func (r *ruleWorld) find(o api.Op) (api.Grant, bool) {
	l := r.Grants(o.Req.Part)
	slices.Reverse(l)
	for end := len(o.Req.URL.Path); end >= 0; end-- {
		for _, g := range l {
			mine := tellOrigin(g.Origin) == tellOrigin(o.Req.URL.Origin) && g.Proxy == o.Proxy
			if mine && slices.Contains(g.Paths, o.Req.URL.Path[:end]) {
				return g, true
			}
		}
	}
	return api.Grant{}, false
}

var (
	wordForm = regexp.MustCompile("^[-!#$%&'*+.^_`|~0-9A-Za-z]+$")
	pathForm = regexp.MustCompile(`(?s)^/.{0,199}$`)
	dirForm  = regexp.MustCompile(`(?s)^(?:.*/)?`)
)

// ruleOrigin: what is written is read again.
func ruleOrigin(o api.Origin) bool {
	back, err := url.Origin(url.Text(o))
	return err == nil && tellOrigin(back) == tellOrigin(o)
}

func ruleOdd(o api.Op) bool {
	words := []string{o.Req.Method}
	for _, p := range o.Req.Heads {
		words = append(words, p.Name)
	}
	for _, word := range words {
		if !wordForm.MatchString(word) {
			return true
		}
	}
	right := o.What > 0 && o.What < 11 && o.Req.Part > -1 && o.Req.Part < 4 && len(words) < 42
	return !right || !ruleOrigin(o.Req.From) || !ruleOrigin(o.Req.URL.Origin) || !pathForm.MatchString(quiet(o.Req.URL.Path)) || len(o.Text) > 3000
}

// quiet is a text with as many bytes, each of which is one to a form.
func quiet(s string) string {
	out := []byte(s)
	for i, c := range out {
		if c > 127 {
			out[i] = 'x'
		}
	}
	return string(out)
}

func (r *ruleWorld) Do(o api.Op) (reply api.Reply) {
	if ruleOdd(o) {
		return api.Reply{What: api.Odd}
	}
	origin, part := tellOrigin(o.Req.URL.Origin), o.Req.Part
	certs := func(x thing) bool { return x.kind == "cert" && x.part == part && x.origin == origin }
	reply.What = api.Done
	switch o.What {
	case api.Attach:
		reply.Head = r.attach(o)
		if reply.Head == "" {
			reply.What = api.None
		}
	case api.Refused:
		reply.What = r.refused(o)
	case api.Answered:
		reply.What = r.answered(o)
	case api.Check:
		reply.What = api.No
		if cors.Needs(o.Req) && !cors.Covers(o.Req, r.passes(o.Req)) {
			reply.What = api.Yes
		}
	case api.Allowed:
		reply.What = r.allowed(o)
	case api.Pick:
		c := r.Copy()
		if l := c.pull(certs); len(l) == 1 {
			reply.Cert = l[0].it.(Cert).N
		} else {
			reply.What = api.Prompt
		}
	case api.Choose:
		if o.Cert < 0 {
			reply.What = api.Odd
			break
		}
		r.lay(thing{"cert", origin, part, origin, Cert{o.Req.URL.Origin, o.Cert}})
		r.most("cert", part, 8)
	case api.Logout:
		r.pull(func(x thing) bool {
			return x.part == part && x.origin == origin && (x.kind == "grant" || x.kind == "wait")
		})
	case api.Clear:
		r.pull(func(x thing) bool {
			fromThere := x.kind == "pass" && tellOrigin(x.it.(api.Pass).From) == origin
			return x.part == part && (o.All || x.origin == origin || fromThere)
		})
	case api.Tick:
		if o.N < 0 || float64(r.now)+float64(o.N) > 1<<40 {
			reply.What = api.Odd
		} else {
			r.now += o.N
		}
	}
	return reply
}

func (r *ruleWorld) attach(o api.Op) string {
	g, ok := r.find(o)
	if !ok {
		return ""
	}
	g.Count++
	head, err := proof.Basic(g.Creds)
	if g.Ask.Scheme != 1 {
		method := o.Req.Method
		if great := strings.ToUpper(method); strings.Contains(" DELETE GET HEAD OPTIONS POST PUT ", " "+great+" ") {
			method = great
		}
		target := o.Req.URL.Path
		if o.Req.URL.Query != "" {
			target += "?" + o.Req.URL.Query
		}
		head, err = proof.Digest(g.Ask, g.Creds, method, target, o.Req.Body, o.Cnonce, g.Count)
	}
	if err != nil {
		r.pullGrant(o.Req.Part, grantKey(g.Origin, g.Proxy, g.Ask.Realm))
		return ""
	}
	r.layGrant(o.Req.Part, g)
	return head
}

func (r *ruleWorld) refused(o api.Op) int {
	l, err := ask.Parse(o.Text)
	if err != nil {
		return api.Odd
	}
	a, ok := ask.Best(l)
	if !ok {
		return api.None
	}
	origin, part := o.Req.URL.Origin, o.Req.Part
	for _, x := range r.pullGrant(part, grantKey(origin, o.Proxy, a.Realm)) {
		g := x.it.(api.Grant)
		if a.Stale && fmt.Sprint(a.Scheme) == fmt.Sprint(g.Ask.Scheme) && a.Nonce != g.Ask.Nonce {
			r.layGrant(part, api.Grant{Origin: origin, Proxy: o.Proxy, Creds: g.Creds, Ask: a, Paths: g.Paths})
			return api.Done
		}
	}
	r.lay(thing{"wait", fmt.Sprint(origin, o.Proxy), part, tellOrigin(origin), bank.Wait{Origin: origin, Proxy: o.Proxy, Path: o.Req.URL.Path, Ask: a}})
	r.most("wait", part, 8)
	return api.Prompt
}

func (r *ruleWorld) answered(o api.Op) int {
	origin, part := o.Req.URL.Origin, o.Req.Part
	for _, x := range r.pull(func(x thing) bool {
		return x.kind == "wait" && x.part == part && x.key == fmt.Sprint(origin, o.Proxy)
	}) {
		w := x.it.(bank.Wait)
		paths := w.Ask.Domain
		if w.Ask.Scheme == 1 {
			paths = []string{dirForm.FindString(w.Path)}
		}
		if o.Proxy || len(paths) == 0 {
			paths = []string{"/"}
		}
		r.layGrant(part, api.Grant{Origin: origin, Proxy: o.Proxy, Creds: o.Creds, Ask: w.Ask, Paths: paths})
		return api.Done
	}
	return api.None
}

// way is where something comes from, and goes to.
func way(from api.Origin, to api.URL) string { return tellOrigin(from) + " > " + tellURL(to) }

// passes are those that count for a request.
func (r *ruleWorld) passes(q api.Request) (l []api.Pass) {
	for _, p := range r.Passes(q.Part) {
		if p.Until > r.now && way(p.From, p.URL) == way(q.From, q.URL) && (p.With || !q.With) {
			l = append(l, p)
		}
	}
	return l
}

func (r *ruleWorld) allowed(o api.Op) int {
	fields, err := cors.Fields(o.Text)
	if err != nil {
		return api.Odd
	}
	part := o.Req.Part
	passes, err := cors.Grant(o.Req, fields, r.now)
	if err != nil {
		r.pull(func(x thing) bool {
			return x.kind == "pass" && x.part == part && way(x.it.(api.Pass).From, x.it.(api.Pass).URL) == way(o.Req.From, o.Req.URL)
		})
		return api.None
	}
	for _, p := range passes {
		key, _, _ := strings.Cut(tellPass(p), " until ")
		r.lay(thing{"pass", key, part, tellOrigin(p.URL.Origin), p})
	}
	r.pull(func(x thing) bool { return x.kind == "pass" && x.part == part && x.it.(api.Pass).Until <= r.now })
	r.most("pass", part, 32)
	return api.Done
}

// Take is told by which kinds each bit stands for.
func (r *ruleWorld) Take(from *ruleWorld, part, cells int) {
	if part < 0 || part > 3 {
		return
	}
	isTaken := func(x thing) bool {
		bit := map[string]int{"grant": 1, "wait": 1, "pass": 2, "cert": 4}[x.kind]
		return x.part == part && cells/bit%2 != 0
	}
	c := from.Copy()
	r.pull(isTaken)
	r.things = append(r.things, c.pull(isTaken)...)
	if cells/8%2 != 0 {
		r.now = from.now
	}
}

// pair is a world, and what the rule tells of it.
type pair struct {
	world *World
	rule  *ruleWorld
}

func newPair() pair { return pair{New(), &ruleWorld{}} }

func (p pair) copy() pair { return pair{p.world.Copy(), p.rule.Copy()} }

// do does an operation in both, and holds all that there is against each other.
func (p pair) do(t *testing.T, o api.Op) api.Reply {
	t.Helper()
	got, want := p.world.Do(o), p.rule.Do(o)
	if got != want {
		t.Errorf("Do(%+v) = %+v; want %+v", o, got, want)
	}
	same(t, fmt.Sprintf("behind %+v", o), tell(p.world), tell(p.rule))
	return got
}

// draw is one of some things.
func draw[T any](below func(int) int, l ...T) T { return l[below(len(l))] }

func drawnOrigin(below func(int) int) api.Origin {
	return draw(below, originB, originB, originB, originB, originA, originA1)
}

// drawnOp is an operation; numbers below those that are asked for make it. One in some is odd.
func drawnOp(below func(int) int) api.Op {
	o := api.Op{
		What:   draw(below, 1, 1, 1, 1, 1, 2, 2, 2, 2, 3, 3, 3, 3, 4, 4, 4, 5, 5, 5, 5, 6, 7, 7, 8, 9, 10, 10),
		Proxy:  below(5) == 1,
		Creds:  api.Creds{User: draw(below, "u", "u", "u", "u", "v", "\"\\", "a:b", "\n"), Pass: draw(below, "p", "q")},
		Cnonce: draw(below, "c", "c", "c", "c", "c", "d", "", "\x7f"),
		Cert:   below(5) - below(5)/4*3,
		All:    below(8) == 1,
		N:      draw(below, 0, 1, 2, 4, 5, 20, 600, -1),
	}
	o.Req = api.Request{
		Part:   draw(below, 0, 0, 0, 0, 1, 2),
		From:   drawnOrigin(below),
		URL:    api.URL{Origin: drawnOrigin(below), Path: draw(below, "/", "/a/", "/a/b", "/a/b", "/c"), Query: draw(below, "", "", "", "", "", "", "q", "\t", "\n")},
		Method: draw(below, "GET", "put", "PUT", "patch", "get", "DELETE"),
		With:   below(3) == 1,
		Body:   draw(below, "", "body"),
	}
	for range below(3) {
		o.Req.Heads = append(o.Req.Heads, api.Param{Name: draw(below, "X-A", "x-b", "Authorization", "Accept"), Value: "text/html"})
	}
	switch o.What {
	case api.Refused:
		o.Text = drawnAsk(below)
	case api.Allowed:
		o.Text = drawnAnswer(below, o.Req)
	}
	if below(20) == 1 {
		draw(below, oddities()...).spoil(&o)
	}
	return o
}

// near is an operation where another one was.
func near(o, last api.Op) api.Op {
	o.Req.Part, o.Proxy = last.Req.Part, last.Proxy
	o.Req.From, o.Req.URL = last.Req.From, last.Req.URL
	return o
}

func drawnAsk(below func(int) int) string {
	if n := below(10); n < 4 {
		return draw(below, "Basic realm=r", "Basic realm=s", "Basic realm x", "", "Negotiate abc==", "Basic realm=r, Digest realm=s, nonce=n", "Basic realm=r, realm=s")
	}
	return "Digest realm=" + draw(below, "r", "r", "r", "s") + ", nonce=" + draw(below, "n", "m", "o") +
		draw(below, "", ", stale=true", ", stale=TRUE", ", stale=true", ", stale=false") +
		draw(below, "", "", ", algorithm=SHA-256", ", algorithm=MD5-sess") +
		draw(below, "", ", qop=auth", ", qop=auth", `, qop="auth-int"`, ", qop=none") +
		draw(below, "", "", `, domain="/a/ /c"`, `, domain="http://x/ /"`) +
		draw(below, "", `, opaque="o"`)
}

func drawnAnswer(below func(int) int, r api.Request) string {
	return draw(below, "Access-Control-Allow-Origin: ", "access-control-allow-origin:", "no field", "other: ") +
		draw(below, "*", url.Text(r.From), url.Text(r.From), "https://b.test") +
		draw(below, "", "\nAccess-Control-Allow-Credentials: true", "\r\nAccess-Control-Allow-Credentials: true", "\n\n") +
		"\nAccess-Control-Allow-Methods: " + draw(below, "*", "PUT, patch", "patch, PUT, DELETE", "", "a b") +
		"\nAccess-Control-Allow-Headers: " + draw(below, "*", "x-a, X-B, authorization", "x-b, *", "") +
		draw(below, "", "", "\nAccess-Control-Max-Age: 20", "\nAccess-Control-Max-Age: 0", "\nAccess-Control-Max-Age: 999999", "\nAccess-Control-Max-Age: -1")
}

// TestAgainstRule: many operations, in some worlds that are copies of one another, and take cells of each other.
func TestAgainstRule(t *testing.T) {
	die := rand.New(rand.NewSource(11))
	var answers [api.Tick + 1][api.Odd + 1]int
	for range 50 {
		pairs, last, asked := []pair{newPair()}, opOf(api.Pick), false
		p := pairs[0]
		for range 300 {
			if die.Intn(10) == 0 {
				p = draw(die.Intn, pairs...)
			}
			if die.Intn(80) == 0 {
				pairs = append(pairs, p.copy())
			}
			if die.Intn(20) == 0 {
				from, part, cells := draw(die.Intn, pairs...), die.Intn(6)-1, die.Intn(32)
				p.world.Take(from.world, part, cells)
				p.rule.Take(from.rule, part, cells)
				same(t, fmt.Sprintf("behind Take(%d, %d)", part, cells), tell(p.world), tell(p.rule))
			}
			o := drawnOp(die.Intn)
			if die.Intn(8) > 0 {
				o = near(o, last)
			}
			// Mostly a user answers at once.
			if asked && die.Intn(4) > 0 {
				o.What = api.Answered
			}
			reply := p.do(t, o)
			asked = o.What == api.Refused && reply.What == api.Prompt
			if !ruleOdd(o) {
				last = o
				answers[o.What][reply.What]++
			}
			if t.Failed() {
				return
			}
		}
		for _, p := range pairs {
			same(t, "at the end", tell(p.world), tell(p.rule))
		}
	}
	wantAnswers(t, answers)
}

// wantAnswers: each operation was answered often in each way in which it may be.
func wantAnswers(t *testing.T, answers [api.Tick + 1][api.Odd + 1]int) {
	t.Helper()
	for what, may := range [][]int{
		api.Attach:   {api.Done, api.None},
		api.Refused:  {api.Odd, api.None, api.Done, api.Prompt},
		api.Answered: {api.None, api.Done},
		api.Check:    {api.No, api.Yes},
		api.Allowed:  {api.Odd, api.None, api.Done},
		api.Pick:     {api.Done, api.Prompt},
		api.Choose:   {api.Odd, api.Done},
		api.Logout:   {api.Done},
		api.Clear:    {api.Done},
		api.Tick:     {api.Odd, api.Done},
	} {
		for reply, n := range answers[what] {
			if may := slices.Contains(may, reply); may && n < 30 || !may && n > 0 {
				t.Errorf("operation %d was answered %d %d times", what, reply, n)
			}
		}
	}
}

// TestShortRows: every row of at most four of some operations that stand in each other's way.
func TestShortRows(t *testing.T) {
	ops := []api.Op{
		opOf(api.Refused, told("Digest realm=r, nonce=n")),
		opOf(api.Refused, told("Digest realm=r, nonce=m, stale=true")),
		opOf(api.Refused, told("Basic realm=s")),
		opOf(api.Answered, by("u", "p")),
		opOf(api.Attach),
		opOf(api.Allowed, method("PUT"), told(allowAny)),
		opOf(api.Allowed, method("PUT"), told("")),
		opOf(api.Check, method("PUT")),
		opOf(api.Choose, cert(3)),
		opOf(api.Pick),
		opOf(api.Logout),
		opOf(api.Clear),
		opOf(api.Clear, everything),
		opOf(api.Tick, later(api.NoAge)),
	}
	var rows func(p pair, left int)
	rows = func(p pair, left int) {
		for _, o := range ops {
			q := p.copy()
			q.do(t, o)
			if t.Failed() {
				return
			}
			if left > 1 {
				rows(q, left-1)
			}
		}
	}
	rows(newPair(), 4)
}

func FuzzAgainstRule(f *testing.F) {
	f.Add([]byte("abc"))
	f.Add([]byte("\x00\x01\x02\x03\x04\x05\x06\x07\x08\x09"))
	f.Fuzz(func(t *testing.T, l []byte) {
		p := newPair()
		for len(l) > 0 {
			p.do(t, drawnOp(func(most int) int {
				if len(l) == 0 {
					return 0
				}
				n := int(l[0]) % most
				l = l[1:]
				return n
			}))
		}
	})
}

// stretch is a piece of memory.
type stretch struct{ from, to uintptr }

// memory is where the texts and lists of things lie, with what stands behind a list's length.
func memory(things ...any) (l []stretch) {
	for _, x := range things {
		l = walk(l, reflect.ValueOf(x))
	}
	return l
}

func walk(l []stretch, v reflect.Value) []stretch {
	switch v.Kind() {
	case reflect.String:
		if v.Len() > 0 {
			from := uintptr(reflect.ValueOf(v.String()).UnsafePointer())
			l = append(l, stretch{from, from + uintptr(v.Len())})
		}
	case reflect.Slice:
		if v.Cap() > 0 {
			from := v.Pointer()
			l = append(l, stretch{from, from + uintptr(v.Cap())*v.Type().Elem().Size()})
		}
		for i := range v.Len() {
			l = walk(l, v.Index(i))
		}
	case reflect.Array:
		for i := range v.Len() {
			l = walk(l, v.Index(i))
		}
	case reflect.Struct:
		for i := range v.NumField() {
			l = walk(l, v.Field(i))
		}
	case reflect.Pointer:
		l = walk(l, v.Elem())
	}
	return l
}

// apart: no piece of memory of the one is one of the other.
func apart(t *testing.T, what string, one, other []stretch) {
	t.Helper()
	if len(one) == 0 || len(other) == 0 {
		t.Errorf("%s: there is nothing to be held apart", what)
	}
	for _, x := range one {
		for _, y := range other {
			if x.from < y.to && y.from < x.to {
				t.Errorf("%s: memory is shared", what)
				return
			}
		}
	}
}
