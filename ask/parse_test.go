package ask

import (
	"fmt"
	"strings"
	"testing"

	"gatepost/api"
)

// read asks that a header has these challenges.
func read(t *testing.T, s string, want ...api.Challenge) {
	t.Helper()
	wantParse(t, s, want, api.OK, -1)
	wantRule(t, s)
}

// refuse asks that a header is wrong, there.
func refuse(t *testing.T, s string, e api.Errno, at int) {
	t.Helper()
	wantParse(t, s, nil, e, at)
	wantRule(t, s)
}

func TestParseNothing(t *testing.T) {
	for _, s := range []string{"", " ", "\t", ",", ", ,", " \t , \t", ",,,,", strings.Repeat(" ", 3000), strings.Repeat(",", 3000), strings.Repeat("\t, ", 1000)} {
		read(t, s)
	}
}

func TestParseGaps(t *testing.T) {
	for _, gap := range []string{"", " ", "\t", ",", " ,", ", ", ",,,", " \t, \t,\t ,", strings.Repeat(", \t", 200)} {
		read(t, gap+"x"+gap, bare("x", ""))
		read(t, gap+"x abc="+gap, bare("x", "abc="))
		read(t, gap+"x a=b"+gap, with("x", "a", "b"))
		read(t, gap+`x a="b"`+gap, with("x", "a", "b"))
		read(t, gap+"x"+gap+","+gap+"y"+gap, bare("x", ""), bare("y", ""))
		read(t, gap+"x q=="+gap+","+gap+"y a=b"+gap, bare("x", "q=="), with("y", "a", "b"))
		read(t, gap+"x a=b"+gap+","+gap+"c=d"+gap, with("x", "a", "b", "c", "d"))
		read(t, gap+"x a=b"+gap+","+gap+"y c=d"+gap, with("x", "a", "b"), with("y", "c", "d"))
	}
	// Other bytes that are empty to the eye are no gaps.
	for _, other := range []string{"\n", "\r", "\v", "\f", "\x00", "\u00a0", ";"} {
		refuse(t, other, api.ErrForm, 0)
		refuse(t, "x,"+other, api.ErrForm, 2)
		refuse(t, "x "+other, api.ErrForm, 2)
		refuse(t, "x"+other, api.ErrForm, 1)
	}
}

func TestParseTextLimit(t *testing.T) {
	for _, n := range []int{2999, 3000} {
		read(t, strings.Repeat("a", n), bare(strings.Repeat("a", n), ""))
		read(t, "x"+strings.Repeat(" ", n-1), bare("x", ""))
		read(t, "x "+strings.Repeat("/", n-2), bare("x", strings.Repeat("/", n-2)))
		read(t, `x a="`+strings.Repeat("ab", (n-6)/2)+`"`, with("x", "a", strings.Repeat("ab", (n-6)/2)))
	}
	refuse(t, strings.Repeat("=", 3000), api.ErrForm, 0)
	refuse(t, "x "+strings.Repeat("=", 2998), api.ErrForm, 2)
	// More than that is told first, without a place, whatever it is.
	for _, n := range []int{3001, 3002, 6000, 1_000_000} {
		for _, s := range []string{strings.Repeat("a", n), strings.Repeat(" ", n), strings.Repeat("=", n), strings.Repeat("x,", n), "x a=b,a=b" + strings.Repeat(" ", n)} {
			refuse(t, s, api.ErrLimit, -1)
		}
	}
}

func TestParseSchemes(t *testing.T) {
	read(t, "Basic", bare("Basic", ""))
	read(t, "Basic ", bare("Basic", ""))
	read(t, "Basic \t ", bare("Basic", ""))
	read(t, "Basic,", bare("Basic", ""))
	read(t, "Basic \t,", bare("Basic", ""))
	read(t, "basic, BASIC", bare("basic", ""), bare("BASIC", ""))
	read(t, "Negotiate,NTLM", bare("Negotiate", ""), bare("NTLM", ""))
	read(t, "x,x,x", bare("x", ""), bare("x", ""), bare("x", ""))
	read(t, "!#$%&'*+-.^_|~\x60 a=b", with("!#$%&'*+-.^_|~\x60", "a", "b"))
	read(t, "9", bare("9", ""))
	for _, s := range []string{"=", `"`, `"x"`, "/", "(", ";", "\x00", "\xff", "\x7f", "é", "=x", "@x y=z"} {
		refuse(t, s, api.ErrForm, 0)
		refuse(t, " \t,"+s, api.ErrForm, 3)
		refuse(t, "x, "+s, api.ErrForm, 3)
		refuse(t, "x a=b ,, \t"+s, api.ErrForm, 10)
		refuse(t, "x abc== , "+s, api.ErrForm, 10)
	}
	// Something else right behind a scheme: blanks should stand there.
	for _, s := range []string{"=", `"`, `"x"`, "/", "/x", "(", ";", "\n", "\x00", "\xff", "=x", "=\"x\""} {
		refuse(t, "Basic"+s, api.ErrForm, 5)
		refuse(t, "x,Basic"+s, api.ErrForm, 7)
	}
}

func TestParseAsksLimit(t *testing.T) {
	for _, one := range []string{"x", "x abc=", "x a=b", "x a=b, c=d"} {
		x, _, _ := ruleParse(one)
		var l []api.Challenge
		for n := range 9 {
			read(t, strings.Repeat(one+",", n), l...)
			l = append(l, x...)
		}
		eight := strings.Repeat(one+", ", 8)
		for _, more := range []string{"x", "x a", "x a=b", "x a=b, a=b", "x/", `x"`, "x a= (", strings.Repeat("x,", 100)} {
			refuse(t, eight+more, api.ErrLimit, len(eight))
			refuse(t, eight+" \t, "+more, api.ErrLimit, len(eight)+4)
		}
		// That there is none is told ahead of that.
		refuse(t, eight+"=", api.ErrForm, len(eight))
		refuse(t, eight+`"`, api.ErrForm, len(eight))
		// What is wrong ahead is told first.
		refuse(t, "x (,"+eight+"x", api.ErrForm, 2)
	}
}

func TestParseTokens(t *testing.T) {
	const all = "abcdefghijklmnopqrstuvwxyzABCDEFGHIJKLMNOPQRSTUVWXYZ0123456789-._~+/"
	for _, text := range []string{"a", "Z", "0", "-", ".", "_", "~", "+", "/", "abc", "QWxhZGRpbjpvcGVuIHNlc2FtZQ==", "a=", "a==", "a===", "/=", "+/+/=", all, all + "=", all + strings.Repeat("=", 100), "realm", "realm=", "true"} {
		for _, ahead := range []string{" ", "  ", "\t", " \t "} {
			for _, behind := range []string{"", " ", "\t", " \t ", ",", " ,", "\t,", ", ,\t"} {
				read(t, "x"+ahead+text+behind, bare("x", text))
			}
			read(t, "x"+ahead+text+", y", bare("x", text), bare("y", ""))
			read(t, "x"+ahead+text+" ,y z=, x", bare("x", text), bare("y", "z="), bare("x", ""))
			read(t, "x"+ahead+text+",y a=b", bare("x", text), with("y", "a", "b"))
		}
		// Behind a Token the challenge is over: no parameter follows.
		refuse(t, "x "+text+", a=b", api.ErrForm, len(text)+5)
		refuse(t, "x "+text+", a = b", api.ErrForm, len(text)+6)
		refuse(t, "x "+text+` , a="b"`, api.ErrForm, len(text)+6)
	}
	// Something else behind what could be a Token: it is none, and no parameter either.
	for _, c := range []struct {
		s  string
		at int
	}{
		{"x a b", 4}, {"x a  b", 5}, {"x a b=c", 4}, {"x a=b c", 6}, {"x a= b c", 7}, {"x a==b", 4}, {"x a== b", 4}, {"x a== =", 4}, {"x a==\"b\"", 4}, {"x a=/", 4}, {"x a=b/", 5}, {"x a=b=", 5}, {"x a=b==", 5}, {"x a= =", 5},
		{"x /=a", 2}, {"x a/=b", 3}, {"x a/b c", 3}, {"x a/b=c", 3}, {"x a/ b", 3}, {"x a/b \"c\"", 3}, {"x / b=c", 2},
		{"x a\"b\"", 3}, {"x a;", 3}, {"x a=;", 4}, {"x a =", 5}, {"x a = ", 6}, {"x a=\n", 4}, {"x a\n", 3}, {"x a==\xff", 4}, {"x a!", 4}, {"x a!,", 4}, {"x !", 3}, {"x !  ", 5}, {"x a!=", 5}, {"x !=,", 4},
		{"x =", 2}, {"x ==", 2}, {"x =a", 2}, {"x  =", 3}, {"x \"a\"", 2}, {"x (", 2}, {"x \xff", 2},
	} {
		refuse(t, c.s, api.ErrForm, c.at)
		refuse(t, "y abc==, "+c.s, api.ErrForm, c.at+9)
		// Behind a parameter a word with = is one more of these, and no scheme.
		if !moreForm.MatchString(c.s) {
			refuse(t, "y a=b, "+c.s, api.ErrForm, c.at+7)
		}
	}
}

// TestParseTokenOrParam: a word and = is a Token, if nothing but the end or a comma stands behind.
func TestParseTokenOrParam(t *testing.T) {
	read(t, "x a=", bare("x", "a="))
	read(t, "x a= ", bare("x", "a="))
	read(t, "x a=,", bare("x", "a="))
	read(t, "x a=\t, y", bare("x", "a="), bare("y", ""))
	read(t, "x a=b", with("x", "a", "b"))
	read(t, "x a= b", with("x", "a", "b"))
	read(t, "x a=\tb,", with("x", "a", "b"))
	read(t, `x a=""`, with("x", "a", ""))
	read(t, `x a= "="`, with("x", "a", "="))
	read(t, "x a!=b", with("x", "a!", "b"))
	// Behind a parameter it is one more parameter, without a value.
	refuse(t, "x a=b, c=", api.ErrForm, 9)
	refuse(t, "x a=b, c=,", api.ErrForm, 9)
	refuse(t, "x a=b, c= \t, y", api.ErrForm, 11)
	refuse(t, "x a=b, c==", api.ErrForm, 9)
}

func TestParseParams(t *testing.T) {
	for _, about := range []string{"", " ", "\t", "  ", "\t \t"} {
		for _, between := range []string{"", " ", "\t "} {
			eq := about + "=" + between
			read(t, "x a"+eq+"b", with("x", "a", "b"))
			read(t, "x a"+eq+`"b"`, with("x", "a", "b"))
			read(t, "x a"+eq+"b"+about+","+between+"c"+eq+`"d"`+about, with("x", "a", "b", "c", "d"))
			read(t, "x a"+eq+`""`+about+",y", with("x", "a", ""), bare("y", ""))
			refuse(t, "x a"+eq+"b,c"+eq, api.ErrForm, len("x ab,c")+2*len(eq))
			refuse(t, "x a"+eq+"b,c"+eq+",d=e", api.ErrForm, len("x ab,c")+2*len(eq))
			refuse(t, "x a"+eq+"b"+about+"; c=d", api.ErrForm, len("x ab")+len(eq)+len(about))
		}
	}
	read(t, `Digest realm="a b", nonce=n, qop="auth,auth-int", algorithm=SHA-256, stale=true`, with("Digest", "realm", "a b", "nonce", "n", "qop", "auth,auth-int", "algorithm", "SHA-256", "stale", "true"))
	read(t, "x !#$%&'*+-.^_|~\x60=~\x60|_^.-+*'&%$#!", with("x", "!#$%&'*+-.^_|~\x60", "~\x60|_^.-+*'&%$#!"))
	read(t, "x realm=realm,Nonce=realm", with("x", "realm", "realm", "Nonce", "realm"))
}

func TestParseQuoted(t *testing.T) {
	for _, c := range []struct{ marked, text string }{
		{`""`, ""}, {`" "`, " "}, {`"a"`, "a"}, {`"a b"`, "a b"}, {`","`, ","}, {`"a, b=c"`, "a, b=c"}, {`"="`, "="}, {"\"\t\"", "\t"}, {"\"\xff\x80\"", "\xff\x80"}, {`"é"`, "é"},
		{`"\""`, `"`}, {`"\\"`, `\`}, {`"\a"`, "a"}, {`"\ "`, " "}, {"\"\\\t\"", "\t"}, {`"a\"b\\c"`, `a"b\c`}, {"\"\\\xff\"", "\xff"}, {`"\\\""`, `\"`}, {`"x\,y"`, "x,y"},
	} {
		read(t, "x a="+c.marked, with("x", "a", c.text))
		read(t, "x a="+c.marked+", b="+c.marked+",y", with("x", "a", c.text, "b", c.text), bare("y", ""))
		refuse(t, "x a="+c.marked+"b", api.ErrForm, 4+len(c.marked))
		refuse(t, "x a="+c.marked+" \t"+c.marked, api.ErrForm, 6+len(c.marked))
	}
	for _, s := range []string{`"`, `"a`, `"a, b=c`, `"\"`, `"\`, `"a\\\"`, "\"\n\"", "\"\x00\"", "\"\x7f\"", "\"a\x1f", "\"\\\n\"", "\"\\\x7f\""} {
		refuse(t, "x a="+s, api.ErrForm, 4)
		refuse(t, "x a= \t"+s, api.ErrForm, 6)
		refuse(t, "x a=b, c = "+s, api.ErrForm, 11)
	}
}

func TestParseTwice(t *testing.T) {
	for _, c := range []struct {
		s  string
		at int
	}{
		{"x a=b,a=b", 6}, {"x a=b, a=c", 7}, {"x a=b, \t,A=c", 9}, {"x A=b,a=c", 6}, {"x aB=b,Ab=c", 7}, {"x realm=r, nonce=n, REALM=r", 20}, {`x a="b",a="b"`, 8}, {"x a=b,c=d,e=f,C=d", 14}, {"x a=b,A = c", 6},
		{"y a=b,x a=b,a=b", 12}, {"x a=b,a=b,a=b", 6}, {"x a=b,a=b;", 6}, {"x a=b,a=b b", 6}, {"x a=b,a=b\n", 6}, {"x a=b,a=b,(", 6},
	} {
		refuse(t, c.s, api.ErrTwice, c.at)
	}
	// That a value is missing is told ahead.
	refuse(t, "x a=b,a=", api.ErrForm, 8)
	refuse(t, "x a=b,a= ,", api.ErrForm, 9)
	refuse(t, `x a=b,a="c`, api.ErrForm, 8)
	// What is told once in each challenge is not told twice; without = it is a scheme.
	read(t, "x a=b,y a=b", with("x", "a", "b"), with("y", "a", "b"))
	read(t, "x a=b,a", with("x", "a", "b"), bare("a", ""))
	read(t, "x a=b,a a=b", with("x", "a", "b"), with("a", "a", "b"))
	// Letters alone are alike, great and small: ^ and ~ are not, though they lie as far apart.
	read(t, "x a^=1,a~=2", with("x", "a^", "1", "a~", "2"))
}

func TestParseParamsLimit(t *testing.T) {
	var pairs []string
	s := "x "
	for i := range 16 {
		name := fmt.Sprint("p", i)
		pairs = append(pairs, name, "q")
		s += name + "=q"
		read(t, s, with("x", pairs...))
		read(t, s+",", with("x", pairs...))
		read(t, s+", y", with("x", pairs...), bare("y", ""))
		read(t, s+",y a=b", with("x", pairs...), with("y", "a", "b"))
		s += ", "
	}
	at := len(s)
	for _, more := range []string{"a=b", "a = b", `a="b"`, "a=b;", "a=b c", "a=b,c=d", "a=b,a=b", "a=b,", "a=b\n"} {
		refuse(t, s+more, api.ErrLimit, at)
		refuse(t, s+"\t,"+more, api.ErrLimit, at+2)
	}
	// That one is of another form, or told, is told ahead.
	refuse(t, s+"a=", api.ErrForm, at+2)
	refuse(t, s+"a= (", api.ErrForm, at+3)
	refuse(t, s+`a="`, api.ErrForm, at+2)
	refuse(t, s+"p0=b", api.ErrTwice, at)
	refuse(t, s+"P15=b", api.ErrTwice, at)
	refuse(t, s+"P15=", api.ErrForm, at+4)
	// Each challenge has as many.
	read(t, s+"y "+s[2:], with("x", pairs...), with("y", pairs...))
	refuse(t, s+"y "+s[2:]+"a=b", api.ErrLimit, 2*at)
}

// TestParseNext: a word behind a comma is one more parameter where = stands behind it, else the next challenge's scheme.
func TestParseNext(t *testing.T) {
	read(t, "x a=b, c = d", with("x", "a", "b", "c", "d"))
	read(t, "x a=b, c\t=d, e", with("x", "a", "b", "c", "d"), bare("e", ""))
	read(t, "x a=b, c", with("x", "a", "b"), bare("c", ""))
	read(t, "x a=b, c ", with("x", "a", "b"), bare("c", ""))
	read(t, "x a=b, c abc=", with("x", "a", "b"), bare("c", "abc="))
	read(t, "x a=b, c d=e, f=g, h", with("x", "a", "b"), with("c", "d", "e", "f", "g"), bare("h", ""))
	read(t, "x, a", bare("x", ""), bare("a", ""))
	// Behind a scheme alone there is no parameter.
	refuse(t, "x, a=b", api.ErrForm, 4)
	refuse(t, "x , a = b", api.ErrForm, 6)
	refuse(t, "x a=b, c , d=", api.ErrForm, 12)
	refuse(t, "x a=b, c/", api.ErrForm, 8)
	refuse(t, "x a=b, c (", api.ErrForm, 9)
}

func TestParsePlaces(t *testing.T) {
	for _, c := range []struct {
		s  string
		at int
	}{
		{"x a=b c=d", 6}, {"x a=b  \tc", 8}, {"x a=b\"c\"", 5}, {"x \ta =  ", 8}, {"x \ta =  ,", 8}, {"x a=b, c= ", 10}, {"x a=b, c=\t\t\t", 12},
		{"x !\t\t", 5}, {"x !\t\tb", 5}, {"x ! ,", 4}, {"x \t(", 3}, {"x, y, =", 6}, {"x, y=", 4}, {"x, y =", 5}, {"x, y \t=z", 6}, {"x,  y  z  w", 10},
	} {
		refuse(t, c.s, api.ErrForm, c.at)
	}
}

func TestParseOfAllShortTexts(t *testing.T) {
	each([]string{"a", "B/", "=", " ", ",", `"`, `\`}, 6, func(s string) { wantRule(t, s) })
	each([]string{"a", "=", " ", ",", `"`}, 5, func(s string) { wantRule(t, "x a=b,"+s); wantRule(t, "x a"+s) })
	each([]string{"x", " a=b", " a", "=", ",", "\t", `="c"`}, 6, func(s string) { wantRule(t, s) })
}

// TestParseOfEachByte: each byte in every place of some headers, for what stands there, and ahead of it.
func TestParseOfEachByte(t *testing.T) {
	for _, s := range []string{"x", "x ", "x abc==", "x abc= ,y", "x a=b", `x a = "b\c" , d=e, y`, "a, b c, d e=f"} {
		for at := range len(s) + 1 {
			for c := range 256 {
				one := string([]byte{byte(c)})
				wantRule(t, s[:at]+one+s[at:])
				if at < len(s) {
					wantRule(t, s[:at]+one+s[at+1:])
				}
			}
		}
	}
}

// TestParseOfLongTexts: headers of many pieces, so that both limits are met.
func TestParseOfLongTexts(t *testing.T) {
	pieces := []string{"x", "Basic ", " a", "=", "b", ", ", ",", " ", `"c d"`, "abc==", "\t"}
	n := uint64(7)
	draw := func(most int) int {
		n = n*6364136223846793005 + 1442695040888963407
		return int(n >> 33 % uint64(most))
	}
	for i := range 20_000 {
		s := ""
		for range 1 + draw(5+i%40) {
			switch draw(4) {
			case 0:
				s += pieces[draw(len(pieces))]
			case 1:
				s += fmt.Sprint(", p", draw(30), "=q")
			case 2:
				s += fmt.Sprint(", S", draw(3), " p", draw(30), `="q"`)
			case 3:
				s += ", y"
			}
		}
		wantRule(t, s)
	}
}

// TestParseIsTheCallers: what is done to an answer isn't seen in its other parts, nor in the next one.
func TestParseIsTheCallers(t *testing.T) {
	const s = "x a=b, c=d, y e=f, g=h, z abc"
	l, _ := Parse(s)
	for i := range l {
		l[i].Params = append(l[i].Params, api.Param{Name: "n", Value: "v"})
		l[i].Params[0].Name = "m"
	}
	if l[0].Params[2].Name != "n" || l[1].Params[0].Value != "f" || l[1].Params[1].Name != "g" {
		t.Errorf("lists of one answer share memory: %q", l)
	}
	read(t, s, with("x", "a", "b", "c", "d"), with("y", "e", "f", "g", "h"), bare("z", "abc"))
}

func TestParseFreshMemory(t *testing.T) {
	s := strings.Repeat("scheme", 5) + " " + strings.Repeat("token", 5) + ", x " + strings.Repeat("name", 5) + "=" + strings.Repeat("word", 5) + `, b="` + strings.Repeat("text", 5) + `"`
	l, err := Parse(s)
	if err != nil {
		t.Fatal(err)
	}
	for _, x := range l {
		apart(t, "Parse", s, x.Scheme)
		apart(t, "Parse", s, x.Token)
		for _, p := range x.Params {
			apart(t, "Parse", s, p.Name)
			apart(t, "Parse", s, p.Value)
		}
	}
}

func FuzzParse(f *testing.F) {
	for _, s := range []string{"", "x", "x abc==", `Digest realm="a b", nonce=n, y`, "x a=b,A=c", "x a= ", "x \x00"} {
		f.Add(s)
	}
	f.Fuzz(func(t *testing.T, s string) { wantRule(t, s) })
}
