package wish

import (
	"fmt"
	"math"
	"reflect"
	"regexp"
	"runtime"
	"slices"
	"strings"
	"testing"
	"unicode/utf8"
	"unsafe"

	"burnish/api"
)

// sixteen is n wishes of different names, true each.
func sixteen(n int) string {
	return strings.Join(strings.Split("abcdefghijklmnopqrstuvwxyz"[:n], ""), ",")
}

// letters is n letters.
func letters(n int) string {
	return strings.Repeat("abcdefghij", n/10+1)[:n]
}

// accepted is texts and their wishes.
func accepted() map[string][]api.Wish {
	all := make([]api.Wish, 16)
	for i := range all {
		all[i] = api.Wish{Name: string(rune('a' + i)), Value: true}
	}
	one := func(v api.Value) []api.Wish { return []api.Wish{{Name: "a", Value: v}} }
	return map[string][]api.Wish{
		"":                             nil,
		"a":                            one(true),
		"turn=flip,bare,x=16":          {{Name: "turn", Value: "flip"}, {Name: "bare", Value: true}, {Name: "x", Value: 16}},
		sixteen(16):                    all,
		"true,false":                   {{Name: "true", Value: true}, {Name: "false", Value: true}},
		"true=false,false=true":        {{Name: "true", Value: false}, {Name: "false", Value: true}},
		"a,aa,aaa":                     {{Name: "a", Value: true}, {Name: "aa", Value: true}, {Name: "aaa", Value: true}},
		"a=b,b=a":                      {{Name: "a", Value: "b"}, {Name: "b", Value: "a"}},
		letters(16) + "=1":             {{Name: letters(16), Value: 1}},
		"az=za":                        {{Name: "az", Value: "za"}},
		"a=true":                       one(true),
		"a=false":                      one(false),
		"a=tru":                        one("tru"),
		"a=truee":                      one("truee"),
		"a=falsee":                     one("falsee"),
		"a=" + letters(16):             one(letters(16)),
		"a=z":                          one("z"),
		"a=0":                          one(0),
		"a=9":                          one(9),
		"a=10":                         one(10),
		"a=-1":                         one(-1),
		"a=-10":                        one(-10),
		"a=123456789":                  one(123456789),
		"a=999999999":                  one(999999999),
		"a=-999999999":                 one(-999999999),
		`a=""`:                         one(""),
		`a="true"`:                     one("true"),
		`a="false"`:                    one("false"),
		`a="flip"`:                     one("flip"),
		`a="0"`:                        one("0"),
		`a=",="`:                       one(",="),
		`a="~"",b="~~",c="~~~""`:       {{Name: "a", Value: `"`}, {Name: "b", Value: "~"}, {Name: "c", Value: `~"`}},
		`a="x~"y~~z"`:                  one(`x"y~z`),
		`a="~~~~"`:                     one("~~"),
		`a="` + letters(17) + `"`:      one(letters(17)),
		`a="` + letters(5000) + `"`:    one(letters(5000)),
		"a=\"\x00\n é€😀\u2028\",b":     {{Name: "a", Value: "\x00\n é€😀\u2028"}, {Name: "b", Value: true}},
		"a=\"\uFFFD\"":                 one("\uFFFD"),
		"a=\"\U0010FFFF\uD7FF\uE000\"": one("\U0010FFFF\uD7FF\uE000"),
	}
}

// P2.1: Parse

func TestParseAccepts(t *testing.T) {
	for s, want := range accepted() {
		list, at, err := Parse(s)
		if at != -1 || err != nil || !slices.Equal(list, want) {
			t.Errorf("%q: %v %d %v, want %v", s, list, at, err, want)
		}
	}
}

func TestParseRefuses(t *testing.T) {
	name := letters(16)
	for s, want := range map[string]int{
		// names
		",": 0, "=": 0, "A": 0, "0": 0, "-": 0, `"`: 0, "~": 0, " a": 0, "é": 0, "`": 0, "{": 0, "\x00": 0,
		"a ": 1, "a b": 1, "aB": 1, "a0": 1, "a-": 1, "a{": 1, "a`": 1, "aé": 1, `a"`: 1, "a\x00": 1,
		"a,": 2, "a,,b": 2, ",a": 0, "a,=": 2, "a,B": 2, "a;b": 1, "a, b": 2,
		letters(17): 16, letters(17) + "=1": 16, letters(18): 16, letters(40): 16, "x," + letters(17): 18, name + "X": 16, name + "1": 16,
		// values
		"a=": 2, "a=,": 2, "a=,b": 2, "a==": 2, "a= b": 2, "a=B": 2, "a=~": 2, "a=+1": 2, "a=é": 2, "a='b'": 2, "a=b=c": 3, "a=b c": 3, "a=b1": 3, `a=b"c"`: 3, "a=1=": 3,
		"a=" + letters(17): 18, "a=" + letters(30): 18, "a=" + name + "X": 18, "a=trueX": 6, "a=true ": 6, "a=true=": 6,
		// numbers
		"x=01": 3, "x=00": 3, "x=0a": 3, "x=-": 3, "x=-,": 3, "x=--1": 3, "x=-0": 3, "x=-01": 3, "x=-a": 3, "x=0-": 3, "x=1-": 3, "x=1a": 3, "x=1.5": 3, "x=/": 2, "x=:": 2, "x=1/": 3, "x=1:": 3, "x=-/": 3, "x=-:": 3, "x=1/2": 3, "x=1:2": 3, "x=1 ": 3, "x=12é": 4,
		"x=1000000000": 11, "x=-1000000000": 12, "x=9999999990": 11, "x=9999999999": 11, "x=123456789a": 11, "x=1234567890123456789012": 11, "x=999999999a": 11,
		// quoted texts
		`a="`: 3, `a="b`: 4, `a="b,c`: 6, `a="~`: 4, `a="~"`: 5, `a="~~~`: 6, `a="~b"`: 4, `a="~,"`: 4, `a="b~ "`: 5, `a="~~~b"`: 6, `a="~é"`: 4, `a=""b`: 4, `a="" `: 4, `a="""`: 4, `a=""=1`: 4, `a="b"c`: 5, `a="é`: 4, `a="é€😀`: 6, `a="é€😀"x`: 7, `a="é~€"`: 5, `a="é"B,c`: 5,
		// names that occur twice
		"a,a": 2, "a,a=1": 2, "a,a,": 2, "a,a=": 2, "a,a=X": 2, "a,a=\xff": 2, "a,a,a": 2, "a,b,a": 4, "a,b,b": 4, "a=1,a=2": 4, `a="é",a`: 6, `a="é€😀",b,a="`: 10, "true,true": 5, name + "," + name: 17, name + "," + name + "=": 17,
		"a,aX": 3, "a,a1": 3, "a,a ": 3, `a,a"`: 3, "a,aé": 3, "a,a\xff": 3, "a,ab,aX": 6, name + "," + letters(17): 33,
		// wishes after the sixteenth
		sixteen(17): 32, sixteen(18): 32, sixteen(26): 32, sixteen(16) + ",qq=1": 32, sixteen(16) + ",qX": 32, sixteen(16) + "," + letters(17): 32, sixteen(16) + ",a": 32, sixteen(16) + `,q="`: 32,
		sixteen(16) + ",": 32, sixteen(16) + ",,": 32, sixteen(16) + ",X": 32, sixteen(16) + ",\xff": 32, sixteen(16) + "X": 31, sixteen(16) + "=": 32, sixteen(15) + ",a": 30,
	} {
		checkFault(t, s, want)
	}
}

// brokenBytes is bytes that aren't part of a whole rune.
var brokenBytes = []string{"\x80", "\xbf", "\xc0", "\xc0\x80", "\xc1\xbf", "\xc3", "\xe2\x82", "\xed\xa0\x80", "\xed\xbf\xbf", "\xef\xbf", "\xf0\x9f\x98", "\xf4\x90\x80\x80", "\xf5", "\xfe", "\xff"}

func TestParseRefusesBrokenBytes(t *testing.T) {
	for _, b := range brokenBytes {
		for before, want := range map[string]int{"": 0, "a": 1, "a,": 2, "a=": 2, "a=b": 3, "a=1": 3, "a=-": 3, "a=0": 3, "a=true": 6, letters(16): 16, `a="`: 3, `a="b`: 4, `a="~`: 4, `a="é€😀`: 6, "a=\"\uFFFD": 4, `a="b"`: 5, `a="é",b`: 7, `a="é",`: 6} {
			for _, behind := range []string{"", "a", `"`, ",", b} {
				checkFault(t, before+b+behind, want)
			}
		}
	}
}

func checkFault(t *testing.T, s string, want int) {
	t.Helper()
	if list, at, err := Parse(s); list != nil || at != want || err != api.ErrWish {
		t.Errorf("%q: %v %d %v, want %d", s, list, at, err, want)
	}
}

const oneWish = `[a-z]+(=(0|-?[1-9][0-9]*|[a-z]+|"([^"~]|~["~])*"))?`

// whole is option strings, but for their limits and for names that occur twice.
var whole = regexp.MustCompile(`^(` + oneWish + `(,` + oneWish + `)*)?$`)

var quotedTexts = regexp.MustCompile(`"([^"~]|~["~])*("|~?$)`)

var names = regexp.MustCompile(`(?:^|,)([a-z]+)`)

// canGoOn tells whether some option string begins with a text, but for the limits.
func canGoOn(s string) bool {
	return slices.ContainsFunc([]string{"", "q", "1", `""`, `"`, `~"`}, func(behind string) bool {
		return whole.MatchString(s + behind)
	})
}

// plainFault is the position of the fault as the document defines it, for texts too short for a limit, or -1.
func plainFault(s string) int {
	valid := s
	for !utf8.ValidString(valid) {
		valid = valid[:len(valid)-1]
	}
	runes := []rune(valid)
	fault := -1
	if valid != s || !whole.MatchString(s) {
		fault = len(runes)
	}
	for i := len(runes); i > 0 && !canGoOn(string(runes[:i])); i-- {
		fault = i - 1
	}
	ended := valid == s && (fault < 0 || fault == len(runes))
	if fault >= 0 {
		runes = runes[:fault]
	}
	if at := plainTwice(string(runes), ended); at >= 0 {
		return at
	}
	return fault
}

// plainTwice is the position of the first name that is there before, or -1. Ended tells whether a name may end with the text.
func plainTwice(s string, ended bool) int {
	s = quotedTexts.ReplaceAllStringFunc(s, func(x string) string {
		return strings.Repeat("Q", utf8.RuneCountInString(x))
	})
	seen := map[string]int{}
	for _, at := range names.FindAllStringSubmatchIndex(s, -1) {
		name := s[at[2]:at[3]]
		if at[3] == len(s) && !ended {
			continue
		}
		if seen[name]++; seen[name] == 2 {
			return at[2]
		}
	}
	return -1
}

var alphabet = []string{"a", "b", ",", "=", `"`, "~", "0", "1", "-", "X", "é", "\xff"}

func checkPlain(t *testing.T, s string) {
	t.Helper()
	want := plainFault(s)
	list, at, err := Parse(s)
	if at != want || (err == nil) != (want < 0) || err != nil && (list != nil || err != api.ErrWish) {
		t.Fatalf("%q: %v %d %v, want %d", s, list, at, err, want)
	}
}

func TestParseAllShort(t *testing.T) {
	list := []string{""}
	for range 3 {
		var longer []string
		for _, s := range list {
			for _, c := range alphabet {
				longer = append(longer, s+c)
				for _, before := range []string{"", "a,", "a=", `a="`, `a=",",`, "b=1,"} {
					checkPlain(t, before+s+c)
				}
			}
		}
		list = longer
	}
}

// pick is a number below n, the same row of them each time.
func pick(seed *uint32, n int) int {
	*seed = *seed*1664525 + 1013904223
	return int(*seed>>8) % n
}

func TestParseLonger(t *testing.T) {
	seed := uint32(1)
	pieces := append([]string{"a=", "b=", "ab", "c=1", `="`, `",`, `"`, "~~", `~"`, "-1", "=true", "=false", ",", ",", "é=", "\uFFFD", "\xc3"}, alphabet...)
	for range 20000 {
		s := ""
		for range 1 + pick(&seed, 9) {
			s += pieces[pick(&seed, len(pieces))]
		}
		checkPlain(t, s)
	}
}

func TestParseCutShort(t *testing.T) {
	for s := range accepted() {
		if len(s) > 100 || s == "a,aa,aaa" { // cut short, its last name is one that is there before
			continue
		}
		for i := range len(s) {
			list, at, err := Parse(s[:i])
			// What an option string begins with has no fault but that it ends, or that its last rune isn't whole.
			if n := wholeRunes(s[:i]); err != nil && (at != n || err != api.ErrWish || list != nil) {
				t.Errorf("%q: %v %d %v, want %d", s[:i], list, at, err, n)
			}
		}
	}
}

// wholeRunes is how many whole runes a text begins with.
func wholeRunes(s string) int {
	n := 0
	for i, c := range s {
		if _, size := utf8.DecodeRuneInString(s[i:]); c == utf8.RuneError && size == 1 {
			break
		}
		n++
	}
	return n
}

func TestParseLarge(t *testing.T) {
	long := strings.Repeat("é~~", 1<<18)
	if list, at, err := Parse(`a="` + long + `"`); at != -1 || err != nil || len(list) != 1 || list[0].Value != strings.Repeat("é~", 1<<18) {
		t.Error(len(list), at, err)
	}
	checkLargeFault(t, `a="`+long, 3+3<<18)
	checkLargeFault(t, `a="`+long+"\xff\"", 3+3<<18)
	checkLargeFault(t, strings.Repeat("a", 1<<20), 16)
	checkLargeFault(t, "a=1"+strings.Repeat("0", 1<<20), 11)
	checkLargeFault(t, strings.Repeat(",", 1<<20), 0)
	checkLargeFault(t, strings.Repeat("a,", 1<<20), 2)
	checkLargeFault(t, sixteen(16)+strings.Repeat(",x", 1<<20), 32)
}

func checkLargeFault(t *testing.T, s string, want int) {
	t.Helper()
	if list, at, err := Parse(s); list != nil || at != want || err != api.ErrWish {
		t.Errorf("%q..: %d wishes, %d %v, want %d", s[:20], len(list), at, err, want)
	}
}

// P2.1: Text

func TestText(t *testing.T) {
	for want, list := range accepted() {
		switch want { // those that may be said more briefly
		case "a=true":
			want = "a"
		case "true=false,false=true":
			want = "true=false,false"
		case `a="flip"`:
			want = "a=flip"
		}
		if s, err := Text(list); s != want || err != nil {
			t.Errorf("%v: %q %v, want %q", list, s, err, want)
		}
	}
}

func TestTextOfValues(t *testing.T) {
	for _, x := range []struct {
		value api.Value
		want  string
	}{
		{true, "a"}, {false, "a=false"}, {"true", `a="true"`}, {"false", `a="false"`}, {"truth", "a=truth"},
		{0, "a=0"}, {-0, "a=0"}, {7, "a=7"}, {-7, "a=-7"}, {100, "a=100"}, {999999999, "a=999999999"}, {-999999999, "a=-999999999"},
		{"", `a=""`}, {"b", "a=b"}, {"az", "a=az"}, {letters(16), "a=" + letters(16)}, {letters(17), `a="` + letters(17) + `"`},
		{"B", `a="B"`}, {"0", `a="0"`}, {"-1", `a="-1"`}, {"b c", `a="b c"`}, {"b,c", `a="b,c"`}, {"a=b", `a="a=b"`}, {"é", `a="é"`}, {"`", "a=\"`\""}, {"{", `a="{"`},
		{`"`, `a="~""`}, {"~", `a="~~"`}, {`~"`, `a="~~~""`}, {`b"c~d`, `a="b~"c~~d"`}, {"\x00\n", "a=\"\x00\n\""}, {"\uFFFD", "a=\"\uFFFD\""}, {"\U0010FFFF", "a=\"\U0010FFFF\""},
	} {
		if s, err := Text([]api.Wish{{Name: "a", Value: x.value}}); s != x.want || err != nil {
			t.Errorf("%#v: %q %v, want %q", x.value, s, err, x.want)
		}
	}
	if s, err := Text([]api.Wish{}); s != "" || err != nil {
		t.Error(s, err)
	}
}

type (
	ownInt    int
	ownString string
	ownBool   bool
)

// strangers is values that are none of a wish.
func strangers() []api.Value {
	n, s, b := 1, "a", true
	return []api.Value{nil, int8(1), int16(1), int32(1), int64(1), uint(1), uint8(1), uint64(1), uintptr(1), 'a', 1.0, float32(1), 1i, ownInt(1), ownString("a"), ownBool(true), &n, &s, &b, (*int)(nil),
		[]byte("a"), []int{1}, []rune("a"), [1]int{1}, map[string]int{"a": 1}, map[string]int(nil), struct{}{}, func() int { return 1 }, (func())(nil), make(chan int), api.ErrForm, error(api.ErrForm), []api.Value{1}, api.Wish{Name: "a", Value: 1}, struct{ f func() }{}}
}

func TestTextRefuses(t *testing.T) {
	one := func(name string, v api.Value) []api.Wish { return []api.Wish{{Name: name, Value: v}} }
	var lists [][]api.Wish
	for _, name := range []string{"", letters(17), letters(1 << 20), "A", "aB", "Ba", "a1", "1", "a b", " a", "a ", "a,b", "a=", "a=1", `"a"`, "~", "-", "é", "aé", "a\xff", "\xff", "a\x00", "`", "{", "\u0251"} {
		lists = append(lists, one(name, 1), one(name, true), one(name, nil), []api.Wish{{Name: "x", Value: 1}, {Name: name, Value: 1}})
	}
	for _, v := range strangers() {
		lists = append(lists, one("a", v), []api.Wish{{Name: "x", Value: 1}, {Name: "a", Value: v}, {Name: "y", Value: 1}})
	}
	for _, n := range []int{1000000000, -1000000000, 9999999999, math.MaxInt32, math.MaxInt, math.MinInt, math.MaxInt - 1} {
		lists = append(lists, one("a", n))
	}
	for _, b := range brokenBytes {
		lists = append(lists, one("a", b), one("a", "b"+b), one("a", b+"b"), one("a", `"`+b), one("a", "\uFFFD"+b))
	}
	lists = append(lists,
		[]api.Wish{{Name: "a", Value: 1}, {Name: "a", Value: 1}}, []api.Wish{{Name: "a", Value: 1}, {Name: "b", Value: 1}, {Name: "a", Value: "x"}}, []api.Wish{{}}, make([]api.Wish, 17), make([]api.Wish, 1<<20))
	for i, list := range lists {
		if s, err := Text(list); s != "" || err != api.ErrForm {
			t.Errorf("%d: %q %v", i, s, err)
		}
	}
	for n := range 27 {
		var list []api.Wish
		for i := range n {
			list = append(list, api.Wish{Name: string(rune('a' + i)), Value: i})
		}
		if s, err := Text(list); (err == nil) != (n <= 16) || err != nil && (err != api.ErrForm || s != "") {
			t.Errorf("%d wishes: %q %v", n, s, err)
		}
	}
}

// P2.1: values

func TestNumberWordTruth(t *testing.T) {
	for _, v := range append(strangers(), 0, 7, -7, math.MaxInt, math.MinInt, "", "a", "true", "7", "\xff", letters(1000), true, false) {
		n, isInt := Number(v)
		s, isString := Word(v)
		b, isBool := Truth(v)
		switch fmt.Sprintf("%T", v) {
		case "int":
			if !isInt || n != v || isString || isBool || s != "" || b {
				t.Errorf("%#v: %v %v %q %v %v %v", v, n, isInt, s, isString, b, isBool)
			}
		case "string":
			if !isString || s != v || isInt || isBool || n != 0 || b {
				t.Errorf("%#v: %v %v %q %v %v %v", v, n, isInt, s, isString, b, isBool)
			}
		case "bool":
			if !isBool || b != v || isInt || isString || n != 0 || s != "" {
				t.Errorf("%#v: %v %v %q %v %v %v", v, n, isInt, s, isString, b, isBool)
			}
		default:
			if isInt || isString || isBool || n != 0 || s != "" || b {
				t.Errorf("%T: %v %v %q %v %v %v", v, n, isInt, s, isString, b, isBool)
			}
		}
	}
}

func TestMustNumber(t *testing.T) {
	for _, n := range []int{0, 1, -1, 999999999, 1000000000, math.MaxInt, math.MinInt} {
		if got := MustNumber(n); got != n {
			t.Errorf("%d: %d", n, got)
		}
	}
	for _, v := range append(strangers(), "7", "", true, false) {
		if what, ok := panicOf(v).(*runtime.TypeAssertionError); !ok {
			t.Errorf("%T: %v", v, what)
		}
	}
}

// panicOf is what MustNumber panics with.
func panicOf(v api.Value) (what any) {
	defer func() { what = recover() }()
	MustNumber(v)
	return nil
}

func TestFind(t *testing.T) {
	list := []api.Wish{{Name: "a", Value: 1}, {Name: "b", Value: "x"}, {Name: "a", Value: 2}, {Name: "", Value: 3}, {Name: "A", Value: true}, {Name: "no", Value: false}, {Name: "nil"}, {Name: "é\xff", Value: int8(5)}}
	for _, x := range []struct {
		name string
		want api.Value
		ok   bool
	}{{"a", 1, true}, {"b", "x", true}, {"", 3, true}, {"A", true, true}, {"no", false, true}, {"nil", nil, true}, {"é\xff", int8(5), true}, {"c", nil, false}, {"aa", nil, false}, {"B", nil, false}, {"é", nil, false}} {
		if v, ok := Find(list, x.name); v != x.want || ok != x.ok {
			t.Errorf("%q: %v %v", x.name, v, ok)
		}
	}
	for _, none := range [][]api.Wish{nil, {}} {
		if v, ok := Find(none, ""); v != nil || ok {
			t.Error(v, ok)
		}
	}
	for i, v := range strangers() {
		got, ok := Find([]api.Wish{{Name: "a", Value: v}}, "a")
		if !ok || reflect.TypeOf(got) != reflect.TypeOf(v) {
			t.Errorf("%d: %T %v", i, got, ok)
		}
	}
}

// P2.1: Runes

func TestRunes(t *testing.T) {
	texts := []string{"", "a", "aé\xffb", "\x00", "é€😀", "\uFFFD", "a\uFFFDb", "\uD7FF\uE000\U0010FFFF", "\uFFFD\uFFFD\xef\xbf", strings.Repeat("é", 5000)}
	for _, b := range brokenBytes {
		texts = append(texts, b, "ab"+b, "é"+b+"c", "\uFFFD"+b, b+"\uFFFD", "😀"+b+b)
	}
	for _, s := range texts {
		valid := s
		for !utf8.ValidString(valid) {
			valid = valid[:len(valid)-1]
		}
		row := Runes(s)
		for range 2 { // a second loop begins again
			var got []rune
			for i, c := range row {
				if i != len(got) {
					t.Errorf("%q: %d behind %d", s, i, len(got))
				}
				got = append(got, c)
			}
			if !slices.Equal(got, []rune(valid)) {
				t.Errorf("%q: %q, want %q", s, got, valid)
			}
		}
	}
}

func TestRunesAreLeft(t *testing.T) {
	for want := range 4 {
		n := 0
		for i, c := range Runes("aé😀b") {
			n++
			if i == want {
				if c != []rune("aé😀b")[i] {
					t.Errorf("%d: %q", i, c)
				}
				break
			}
		}
		if n != want+1 {
			t.Errorf("%d runes, want %d", n, want+1)
		}
	}
	calls := 0
	Runes("abc")(func(int, rune) bool { calls++; return false })
	if calls != 1 {
		t.Errorf("%d calls behind the end", calls)
	}
}

// P2.2

// checkBack parses a list's text.
func checkBack(t *testing.T, list []api.Wish) string {
	t.Helper()
	s, err := Text(list)
	if err != nil {
		t.Fatalf("%v: %v", list, err)
	}
	back, at, err := Parse(s)
	if at != -1 || err != nil || !slices.Equal(back, list) {
		t.Fatalf("%v: %q is %v %d %v", list, s, back, at, err)
	}
	return s
}

func TestParseText(t *testing.T) {
	seed := uint32(7)
	runes := []rune("ab~\"~\",=-01 XZ\x00é€😀\uFFFD\U0010FFFF")
	for range 5000 {
		var list []api.Wish
		for i := range pick(&seed, 17) {
			name := string(rune('a'+i)) + letters(pick(&seed, 16))
			var v api.Value
			switch pick(&seed, 5) {
			case 0:
				v = pick(&seed, 2) == 0
			case 1:
				v = pick(&seed, 2000) - 1000
			case 2:
				v = (pick(&seed, 2)*2 - 1) * (999999999 - pick(&seed, 3))
			case 3:
				v = []string{"true", "false", "flip", "", "tru", letters(pick(&seed, 20))}[pick(&seed, 6)]
			default:
				text := ""
				for range pick(&seed, 8) {
					text += string(runes[pick(&seed, len(runes))])
				}
				v = text
			}
			list = append(list, api.Wish{Name: name, Value: v})
		}
		checkBack(t, list)
	}
}

func TestTextIsNoLonger(t *testing.T) {
	check := func(s string) bool {
		list, _, err := Parse(s)
		if err != nil {
			return false
		}
		if text := checkBack(t, list); len(text) > len(s) {
			t.Errorf("%q became %q", s, text)
		}
		return true
	}
	for s := range accepted() {
		if !check(s) {
			t.Errorf("%q isn't accepted", s)
		}
	}
	seed, n := uint32(3), 0
	values := []string{"", "=true", "=false", `="true"`, `="flip"`, "=flip", `=""`, "=0", "=-5", `="5"`, `="a~"b"`, `="é~~"`, `="` + letters(16) + `"`, `="` + letters(17) + `"`}
	for range 2000 {
		var parts []string
		for i := range pick(&seed, 16) {
			parts = append(parts, string(rune('a'+i))+values[pick(&seed, len(values))])
		}
		if check(strings.Join(parts, ",")) {
			n++
		}
	}
	if n != 2000 {
		t.Errorf("%d accepted of 2000", n)
	}
}

// P2.3

// shares tells whether two texts share memory.
func shares(a, b string) bool {
	if a == "" || b == "" {
		return false
	}
	p, q := uintptr(unsafe.Pointer(unsafe.StringData(a))), uintptr(unsafe.Pointer(unsafe.StringData(b)))
	return p < q+uintptr(len(b)) && q < p+uintptr(len(a))
}

func TestParseIsNew(t *testing.T) {
	s := strings.Clone(`alpha=beta,gamma="delta",epsilon="` + letters(50) + `",zeta=true`)
	first, _, err := Parse(s)
	second, _, again := Parse(s)
	if err != nil || again != nil {
		t.Fatal(err, again)
	}
	for i, w := range first {
		v, _ := w.Value.(string)
		other, _ := second[i].Value.(string)
		if shares(w.Name, s) || shares(v, s) || shares(w.Name, second[i].Name) || shares(v, other) {
			t.Errorf("%v shares memory", w)
		}
	}
	first[0] = api.Wish{Name: "x", Value: 1}
	if _ = append(first, api.Wish{Name: "y"}); second[0].Name != "alpha" || len(second) != 4 {
		t.Error("the lists share memory")
	}
}

func TestTextIsNew(t *testing.T) {
	for _, list := range [][]api.Wish{{{Name: strings.Clone("bare"), Value: true}}, {{Name: "note", Value: strings.Clone("a b c")}}, {{Name: "word", Value: strings.Clone("flip")}}} {
		s, err := Text(list)
		again, _ := Text(list)
		v, _ := list[0].Value.(string)
		if err != nil || shares(s, list[0].Name) || shares(s, v) || shares(s, again) {
			t.Errorf("%q shares memory, or %v", s, err)
		}
	}
}

func TestTextLeavesList(t *testing.T) {
	room := []api.Wish{{Name: "b", Value: "x"}, {Name: "a", Value: 1}, {Name: "c", Value: `"`}, {Name: "d", Value: false}, {Name: "Z", Value: nil}}
	held := slices.Clone(room)
	for n := range len(room) + 1 {
		if _, err := Text(room[:n]); (err == nil) != (n < 5) {
			t.Error(n, err)
		}
		Find(room[:n], "a")
		Find(room[:n], "none")
	}
	if !slices.Equal(room, held) {
		t.Errorf("written: %v", room)
	}
}

func TestValuesAreNew(t *testing.T) {
	v := strings.Clone("some text")
	word, ok := Word(v)
	if !ok || word != v || shares(word, v) {
		t.Errorf("Word: %q %v shares memory", word, ok)
	}
	found, ok := Find([]api.Wish{{Name: "a", Value: v}}, "a")
	text, isText := found.(string)
	if !ok || !isText || text != v || shares(text, v) {
		t.Errorf("Find: %v %v shares memory", found, ok)
	}
}

func TestSameAgain(t *testing.T) {
	for s := range accepted() {
		for _, x := range []string{s, s + ",", s + "\xff"} {
			list, at, err := Parse(x)
			Parse("other=1,than=that")
			again, atAgain, errAgain := Parse(x)
			if !slices.Equal(list, again) || at != atAgain || err != errAgain {
				t.Errorf("%q: not the same again", x)
			}
		}
	}
}
