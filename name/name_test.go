package name

import (
	"cmp"
	"fmt"
	"math"
	"math/rand"
	"regexp"
	"slices"
	"strconv"
	"strings"
	"testing"

	"garner/api"
)

const (
	mostCount = 1<<31 - 1

	kindRoster = 1
	kindNew    = 2
	kindLast   = 7
)

func newSource() *rand.Rand { return rand.New(rand.NewSource(7)) }

// plainLetters goes by the chapter's words.
func plainLetters() map[int]string {
	return map[int]string{
		api.FileValue: "v",
		api.FileLog:   "w",
		api.FileTable: "t",
		api.FileSnap:  "s",
		api.FileMove:  "m",
	}
}

// plainOf goes by the chapter's words; "" is no name.
func plainOf(f api.File) string {
	if f.Num == 0 && f.Kind == kindRoster {
		return "roster"
	}
	if f.Num == 0 && f.Kind == kindNew {
		return "roster.new"
	}
	letter, ok := plainLetters()[f.Kind]
	if !ok || f.Num < 1 || f.Num > mostCount {
		return ""
	}
	return fmt.Sprintf("%s%010d", letter, f.Num)
}

var pattern = regexp.MustCompile(`\A(?s:.)[0-9]{10}\z`)

// plainParse goes by a pattern, and then asks whether the file has that name.
func plainParse(s string) (api.File, bool) {
	f := api.File{}
	switch {
	case s == "roster":
		f.Kind = kindRoster
	case s == "roster.new":
		f.Kind = kindNew
	case pattern.MatchString(s):
		for kind, letter := range plainLetters() {
			if letter == s[:1] {
				f.Kind = kind
			}
		}
		f.Num, _ = strconv.Atoi(s[1:])
	}
	if plainOf(f) != s || s == "" {
		return api.File{}, false
	}
	return f, true
}

func plainAll(l []string, kind int) []int {
	nums := []int{}
	for _, s := range l {
		if f, ok := plainParse(s); ok && f.Kind == kind {
			at := 0
			for at < len(nums) && nums[at] <= f.Num {
				at++
			}
			nums = slices.Insert(nums, at, f.Num)
		}
	}
	return nums
}

// noKinds are numbers that are no Kind, though some of them are one but for their upper bits.
func noKinds() []int {
	l := []int{0, -1, -2, -3, -7, 8, 9, 10, 100, 127, 128, 255, 256, mostCount, math.MaxInt, math.MinInt}
	for kind := 1; kind <= kindLast; kind++ {
		l = append(l, kind+1<<8, kind+1<<16, kind+1<<32, kind-1<<32, kind+math.MinInt)
	}
	return l
}

// numsThatCount are numbers that count, of each number of digits, and at their edges.
func numsThatCount() []int {
	l := []int{12, 123, 300, 1 << 16, 1 << 30, mostCount - 1, mostCount}
	for n := 1; n <= mostCount; n *= 10 {
		l = append(l, n, n+1)
		if n > 1 {
			l = append(l, n-1)
		}
	}
	return l
}

// numsThatDont are none that count.
func numsThatDont() []int {
	return []int{
		0, -1, -2, -12, -mostCount, -mostCount - 1, mostCount + 1, mostCount + 2, 1<<32 - 1, 1 << 32, 1<<32 + 1, 1<<33 + 12,
		9999999999, 10000000000, 10000000001, 1 << 40, math.MaxInt - 1, math.MaxInt, math.MinInt, math.MinInt + 1, math.MinInt + 12,
	}
}

// someNum is a number that counts, with few or many digits.
func someNum(r *rand.Rand) int { return 1 + r.Intn(mostCount)>>r.Intn(31) }

// someFile has a name.
func someFile(r *rand.Rand) api.File {
	f := api.File{Kind: 1 + r.Intn(kindLast)}
	if f.Kind > kindNew {
		f.Num = someNum(r)
	}
	return f
}

func checkName(t *testing.T, f api.File, want string) {
	t.Helper()
	if plainOf(f) != want {
		t.Fatalf("the words say %q of %v, not %q", plainOf(f), f, want)
	}
	if s, err := Of(f); s != want || err != api.OK {
		t.Fatalf("Of(%v) = %q, %d; want %q", f, s, err, want)
	}
	if got, ok := Parse(want); got != f || !ok {
		t.Fatalf("Parse(%q) = %v, %v; want %v", want, got, ok, f)
	}
	if l := All([]string{want}, f.Kind); !slices.Equal(l, []int{f.Num}) {
		t.Fatalf("All of %q alone = %v", want, l)
	}
}

func checkNoFile(t *testing.T, f api.File) {
	t.Helper()
	if plainOf(f) != "" {
		t.Fatalf("the words say otherwise of %v", f)
	}
	if s, err := Of(f); s != "" || err != api.ErrArg {
		t.Fatalf("Of(%v) = %q, %d; want no name, %d", f, s, err, api.ErrArg)
	}
}

// shortened is s, but for most of a long one.
func shortened(s string) string {
	if len(s) > 100 {
		return fmt.Sprintf("%s.. (%d bytes)", s[:100], len(s))
	}
	return s
}

func checkNoName(t *testing.T, s string) {
	t.Helper()
	if f, ok := plainParse(s); ok {
		t.Fatalf("the words say that %q is the name of %v", s, f)
	}
	if f, ok := Parse(s); f != (api.File{}) || ok {
		t.Fatalf("Parse(%q) = %v, %v; want no file", shortened(s), f, ok)
	}
	for kind := -1; kind <= kindLast+1; kind++ {
		if l := All([]string{s}, kind); len(l) != 0 {
			t.Fatalf("All of %q, Kind %d = %v", shortened(s), kind, l)
		}
	}
}

// Na1: names that are known, the chapter's example among them.
func TestKnown(t *testing.T) {
	for _, c := range []struct {
		f    api.File
		want string
	}{
		{api.File{Kind: api.FileTable, Num: 12}, "t0000000012"},
		{api.File{Kind: api.FileRoster}, "roster"},
		{api.File{Kind: api.FileNew}, "roster.new"},
		{api.File{Kind: api.FileValue, Num: 1}, "v0000000001"},
		{api.File{Kind: api.FileLog, Num: 9}, "w0000000009"},
		{api.File{Kind: api.FileTable, Num: 10}, "t0000000010"},
		{api.File{Kind: api.FileSnap, Num: 123456789}, "s0123456789"},
		{api.File{Kind: api.FileMove, Num: 1000000000}, "m1000000000"},
		{api.File{Kind: api.FileValue, Num: mostCount}, "v2147483647"},
		{api.File{Kind: api.FileLog, Num: mostCount}, "w2147483647"},
		{api.File{Kind: api.FileTable, Num: mostCount}, "t2147483647"},
		{api.File{Kind: api.FileSnap, Num: mostCount}, "s2147483647"},
		{api.File{Kind: api.FileMove, Num: mostCount}, "m2147483647"},
	} {
		checkName(t, c.f, c.want)
	}
}

// Na1: the two names without numbers, by Num.
func TestNamesWithoutNumbers(t *testing.T) {
	checkName(t, api.File{Kind: api.FileRoster}, "roster")
	checkName(t, api.File{Kind: api.FileNew}, "roster.new")
	for _, num := range append(numsThatCount(), numsThatDont()...) {
		if num != 0 {
			checkNoFile(t, api.File{Kind: api.FileRoster, Num: num})
			checkNoFile(t, api.File{Kind: api.FileNew, Num: num})
		}
	}
}

// Na1: the names with numbers, by Num.
func TestNamesWithNumbers(t *testing.T) {
	for kind, letter := range plainLetters() {
		for _, num := range numsThatCount() {
			digits := strconv.Itoa(num)
			checkName(t, api.File{Kind: kind, Num: num}, letter+"0000000000"[len(digits):]+digits)
		}
		for _, num := range numsThatDont() {
			checkNoFile(t, api.File{Kind: kind, Num: num})
		}
	}
}

// Na1, R1: of a Kind that is none, the zero file too, there is no name.
func TestNoKinds(t *testing.T) {
	checkNoFile(t, api.File{})
	for _, kind := range noKinds() {
		for _, num := range append(numsThatCount(), numsThatDont()...) {
			checkNoFile(t, api.File{Kind: kind, Num: num})
		}
	}
}

// Na1: Of as the words say.
func TestOfAsTheWordsSay(t *testing.T) {
	r := newSource()
	named := 0
	for range 100000 {
		f := api.File{Kind: r.Intn(11) - 2, Num: r.Intn(1<<33)>>r.Intn(33) - r.Intn(2)}
		want := plainOf(f)
		if want == "" {
			checkNoFile(t, f)
			continue
		}
		checkName(t, f, want)
		named++
	}
	if named < 30000 {
		t.Errorf("only %d had names", named)
	}
}

// Na1: no byte, and texts that are a name but for a beginning or an end that is missing.
func TestParseOfParts(t *testing.T) {
	r := newSource()
	for range 200 {
		s := plainOf(someFile(r))
		for n := range len(s) {
			// 'roster' is the only name that another one begins with.
			if s[:n] != "roster" {
				checkNoName(t, s[:n])
			}
			if n > 0 {
				checkNoName(t, s[n:])
			}
		}
	}
}

// Na1: any other byte in a name's stead, or more, at any place.
func TestParseOfOtherBytes(t *testing.T) {
	seen := 0
	check := func(s string) {
		t.Helper()
		want, ok := plainParse(s)
		if !ok {
			checkNoName(t, s)
			return
		}
		if f, ok := Parse(s); f != want || !ok {
			t.Fatalf("Parse(%q) = %v, %v; want %v", s, f, ok, want)
		}
		seen++
	}
	names := []string{"roster", "roster.new"}
	for _, letter := range plainLetters() {
		names = append(names, letter+"0000000001", letter+"0987654321", letter+"2147483647")
	}
	for _, s := range names {
		for at := range len(s) + 1 {
			for c := range 256 {
				other := string([]byte{byte(c)})
				check(s[:at] + other + s[at:])
				if at < len(s) {
					check(s[:at] + other + s[at+1:])
				}
			}
			if at < len(s) {
				check(s[:at] + s[at+1:])
			}
		}
	}
	if seen < 1000 {
		t.Errorf("only %d names came up", seen)
	}
}

// Na1: each byte that is no name's letter, ahead of a number that counts.
func TestParseOfOtherLetters(t *testing.T) {
	letters := 0
	for c := range 256 {
		s := string([]byte{byte(c)}) + "0000000012"
		if strings.Contains("vwtsm", s[:1]) {
			letters++
			continue
		}
		checkNoName(t, s)
	}
	if letters != 5 {
		t.Errorf("%d letters came up", letters)
	}
	for _, s := range []string{"V0000000012", "00000000012", "r0000000012", "n0000000012", "é0000000012", "é000000012", "vv0000000012", "vw000000012", "0000000012v", "0000000012"} {
		checkNoName(t, s)
	}
}

// Na1: fewer or more than ten digits, though the number counts.
func TestParseByDigits(t *testing.T) {
	for _, letter := range plainLetters() {
		for n := range 40 {
			for _, num := range []string{"1", "12", "2147483647"} {
				if n < len(num) {
					continue
				}
				s := letter + strings.Repeat("0", n-len(num)) + num
				if n != 10 {
					checkNoName(t, s)
					continue
				}
				value, _ := strconv.Atoi(num)
				if f, ok := Parse(s); !ok || f.Num != value {
					t.Errorf("Parse(%q) = %v, %v", s, f, ok)
				}
			}
			checkNoName(t, letter+strings.Repeat("0", n))
		}
	}
}

// Na1: ten digits whose number does not count.
func TestParseOfGreatNumbers(t *testing.T) {
	for _, letter := range plainLetters() {
		for _, num := range []string{
			"0000000000", "2147483648", "2147483649", "2147483650", "2147483747", "2147493647", "2200000000", "2999999999", "3000000000",
			"4294967295", "4294967296", "4294967297", "4294967308", "6442450943", "8589934593", "9999999999", "9147483647",
		} {
			checkNoName(t, letter+num)
		}
	}
}

// Na1: signs, blanks and what else may stand in a number elsewhere.
func TestParseOfSignsAndBlanks(t *testing.T) {
	for _, letter := range plainLetters() {
		for _, num := range []string{
			"+000000012", "-000000012", " 000000012", "000000012 ", "00000000 12", "0000000 12", "0000+00012", "000000-012", "\t000000012", "000000012\n",
			"0x00000012", "0b00000001", "0o00000012", "0_00000012", "00000000_1", "000000012.", "00000012.0", "0000001e01", "000000001e", "000000012\x00", "\x00000000012",
			"0000000012 ", " 0000000012", "0000000012\n", "0000000012\x00", "+0000000012", "-0000000012", "0000000012.new",
			"0000000\u0661\u0662", "000000\u0661\u0662", "0000000\uff11", "000000000\xb2", "00000000\u00b2",
		} {
			checkNoName(t, letter+num)
		}
	}
}

// Na1: 'roster' and 'roster.new' with less or more behind them, or ahead.
func TestParseOfOtherRosters(t *testing.T) {
	for _, s := range []string{
		"", "r", "roste", "roster.", "roster.n", "roster.ne", "roster.neww", "roster.new.new", "roster.new ", "roster.new\n", "roster.new\x00",
		"rosterr", "roster ", " roster", "\nroster", "roster\n", "roster\x00", "\x00roster", "roster0", "roster1", "roster0000000000", "roster0000000001",
		"roster.old", "roster.NEW", "Roster", "ROSTER", "roster,new", "rosternew", "new", ".new", "./roster", "/roster", "rosterroster", "roster/new",
		"roster.new0000000001", "roster00001", "roster.new1", "r0000000001",
	} {
		checkNoName(t, s)
	}
}

// Na1: long texts.
func TestParseOfLongTexts(t *testing.T) {
	for _, n := range []int{256, 267, 1 << 16, 1<<16 + 11, 1 << 20} {
		for _, part := range []string{"0", "v", "\x00", "roster", "v0000000001", "v", "é", "\xff"} {
			long := strings.Repeat(part, n)
			checkNoName(t, long)
			for _, s := range []string{"roster", "roster.new", "v0000000001", "m2147483647"} {
				checkNoName(t, s+long)
				checkNoName(t, long+s)
			}
		}
	}
}

// mixedText is such that many of them are names, or nearly.
func mixedText(r *rand.Rand) string {
	b := []byte(plainOf(someFile(r)))
	if r.Intn(4) == 0 {
		b = append([]byte{"vwtsmx0"[r.Intn(7)]}, fmt.Sprintf("%010d", r.Intn(1<<33)>>r.Intn(33))...)
	}
	palette := []byte("0123456789vwtsm +-_.rostenw\x00\xff\n")
	for range r.Intn(3) {
		at := r.Intn(len(b) + 1)
		switch r.Intn(4) {
		case 0:
			b = b[:at]
		case 1:
			b = slices.Insert(b, at, palette[r.Intn(len(palette))])
		default:
			if at < len(b) {
				b[at] = palette[r.Intn(len(palette))]
			}
		}
	}
	return string(b)
}

// Na1: Parse as the words say.
func TestParseAsTheWordsSay(t *testing.T) {
	r := newSource()
	names, others := 0, 0
	for range 100000 {
		s := mixedText(r)
		want, wantOK := plainParse(s)
		f, ok := Parse(s)
		if f != want || ok != wantOK {
			t.Fatalf("Parse(%q) = %v, %v; want %v, %v", s, f, ok, want, wantOK)
		}
		if ok {
			names++
		} else {
			others++
		}
	}
	if names < 20000 || others < 20000 {
		t.Errorf("only %d names, and %d others, came up", names, others)
	}
}

// Na1: All's answers that are known.
func TestAllKnown(t *testing.T) {
	mixed := []string{
		"w0000000009", "x", "w0000000002", "v0000000003", "", "roster", "t0000000012", "w0000000009", "s2147483647", "roster.new", "m0000000001",
		"w0000000000", "w000000001", "w00000000001", "W0000000001", "w2147483648", "w0000000010", "roster", "s0000000001", "v0000000003", "v0000000003",
	}
	for _, c := range []struct {
		l    []string
		kind int
		want []int
	}{
		{[]string{"w0000000009", "x", "w0000000002"}, api.FileLog, []int{2, 9}},
		{mixed, api.FileRoster, []int{0, 0}},
		{mixed, api.FileNew, []int{0}},
		{mixed, api.FileValue, []int{3, 3, 3}},
		{mixed, api.FileLog, []int{2, 9, 9, 10}},
		{mixed, api.FileTable, []int{12}},
		{mixed, api.FileSnap, []int{1, mostCount}},
		{mixed, api.FileMove, []int{1}},
		{mixed, 0, nil},
		{mixed, -1, nil},
		{mixed, kindLast + 1, nil},
		{[]string{"x", "", "w", "0", "roster0"}, 0, nil},
		{[]string{"x", "", "w", "0", "roster0"}, api.FileLog, nil},
		{[]string{"roster.new", "roster.new", "roster.new"}, api.FileNew, []int{0, 0, 0}},
		{[]string{"roster.new", "roster.new", "roster.new"}, api.FileRoster, nil},
	} {
		if l := All(c.l, c.kind); !slices.Equal(l, c.want) {
			t.Errorf("All(%q, %d) = %v, want %v", c.l, c.kind, l, c.want)
		}
	}
}

// Na1: of a kind that is none there are no numbers, whatever the texts are.
func TestAllOfNoKinds(t *testing.T) {
	r := newSource()
	l := []string{"", "x", "0", "roster0"}
	for range 200 {
		l = append(l, mixedText(r))
	}
	for _, kind := range noKinds() {
		if got := All(l, kind); len(got) != 0 {
			t.Errorf("All of Kind %d = %v", kind, got)
		}
	}
}

// someTexts are names and others, in any order, some of them more than once.
func someTexts(r *rand.Rand, n int) []string {
	l := make([]string, n)
	for i := range l {
		l[i] = mixedText(r)
		if i > 0 && r.Intn(3) == 0 {
			l[i] = l[r.Intn(i)]
		}
	}
	return l
}

// Na1: All as the words say.
func TestAllAsTheWordsSay(t *testing.T) {
	r := newSource()
	told := 0
	for range 3000 {
		l := someTexts(r, r.Intn(40))
		for kind := -1; kind <= kindLast+1; kind++ {
			got, want := All(l, kind), plainAll(l, kind)
			if !slices.Equal(got, want) {
				t.Fatalf("All(%q, %d) = %v, want %v", l, kind, got, want)
			}
			told += len(got)
		}
	}
	if told < 20000 {
		t.Errorf("only %d numbers came up", told)
	}
}

// Na1: All of many texts; in which order they are is not to be seen.
func TestAllOfMany(t *testing.T) {
	r := newSource()
	const most = 5000
	var l []string
	want := make([]int, most)
	for i := range want {
		want[i] = i + 1
		for _, letter := range plainLetters() {
			l = append(l, fmt.Sprintf("%s%010d", letter, i+1))
		}
	}
	for range 3 {
		r.Shuffle(len(l), func(i, j int) { l[i], l[j] = l[j], l[i] })
		for kind := range plainLetters() {
			if got := All(l, kind); !slices.Equal(got, want) {
				t.Errorf("All of many, Kind %d, has %d numbers", kind, len(got))
			}
		}
	}
}

// Na2: names are parsed: they are their files' alone.
func TestNamesAreParsed(t *testing.T) {
	r := newSource()
	files := map[string]api.File{}
	for range 50000 {
		f := someFile(r)
		s, err := Of(f)
		if err != api.OK {
			t.Fatalf("Of(%v) = %d", f, err)
		}
		if got, ok := Parse(s); got != f || !ok {
			t.Fatalf("%v, %q, is parsed as %v, %v", f, s, got, ok)
		}
		if other, ok := files[s]; ok && other != f {
			t.Fatalf("%v and %v are both %q", f, other, s)
		}
		files[s] = f
	}
}

// Na2: a text that is parsed is its file's name.
func TestParsedAreNames(t *testing.T) {
	r := newSource()
	for range 50000 {
		s := mixedText(r)
		f, ok := Parse(s)
		if !ok {
			continue
		}
		if got, err := Of(f); got != s || err != api.OK {
			t.Fatalf("%q is parsed as %v, whose name is %q, %d", s, f, got, err)
		}
	}
}

// Na2: names of one kind are in order as their numbers are.
func TestNamesAreInOrder(t *testing.T) {
	r := newSource()
	nums := numsThatCount()
	for range 300 {
		nums = append(nums, someNum(r))
	}
	for kind := range plainLetters() {
		for _, a := range nums {
			s, _ := Of(api.File{Kind: kind, Num: a})
			for _, b := range nums {
				other, _ := Of(api.File{Kind: kind, Num: b})
				if cmp.Compare(s, other) != cmp.Compare(a, b) {
					t.Fatalf("%q and %q are not as %d and %d", s, other, a, b)
				}
			}
		}
	}
}

// Na2: names put in order are told one behind the other.
func TestSortedNamesHaveRisingNumbers(t *testing.T) {
	r := newSource()
	for range 500 {
		l := someTexts(r, 60)
		slices.Sort(l)
		for kind := range plainLetters() {
			var nums []int
			for _, s := range l {
				if f, ok := Parse(s); ok && f.Kind == kind {
					nums = append(nums, f.Num)
				}
			}
			if !slices.Equal(nums, All(l, kind)) {
				t.Fatalf("%q: %v, but All tells %v", l, nums, All(l, kind))
			}
		}
	}
}

// R3: no call writes to what it is handed, nor behind its end.
func TestNothingIsWritten(t *testing.T) {
	r := newSource()
	for range 1000 {
		whole := someTexts(r, 40)
		kept := slices.Clone(whole)
		part := whole[:r.Intn(len(whole)+1)]
		for kind := -1; kind <= kindLast+1; kind++ {
			All(part, kind)
		}
		for _, s := range part {
			Parse(s)
		}
		if !slices.Equal(whole, kept) {
			t.Fatal("a call wrote to its texts, or behind them")
		}
	}
}

// R3: what All tells is no part of its texts, nor of another answer.
func TestAnswersAreNew(t *testing.T) {
	r := newSource()
	for range 1000 {
		l := someTexts(r, r.Intn(40))
		kept := slices.Clone(l)
		for kind := 1; kind <= kindLast; kind++ {
			want := plainAll(l, kind)
			first := All(l, kind)
			second := All(l, kind)
			for i := range first[:cap(first)] {
				first[:cap(first)][i] = -1
			}
			if !slices.Equal(second, want) || !slices.Equal(All(l, kind), want) {
				t.Fatal("what All tells shares memory with another answer")
			}
			if !slices.Equal(l, kept) {
				t.Fatal("what All tells is a part of its texts")
			}
			for i := range l {
				l[i] = "spoilt"
			}
			if !slices.Equal(second, want) {
				t.Fatal("what All tells hangs on its texts later on")
			}
			copy(l, kept)
		}
	}
}

// R3: what Parse and Of tell stays, though the memory that a text was made of is turned.
func TestParseKeepsNothing(t *testing.T) {
	b := []byte("t0000000012")
	f, _ := Parse(string(b))
	s, _ := Of(f)
	copy(b, "v0000000099")
	if f != (api.File{Kind: api.FileTable, Num: 12}) || s != "t0000000012" {
		t.Errorf("%v, %q", f, s)
	}
}

// R4: the same answers, again and again, whatever was asked in between, and whatever the memory around the texts is.
func TestSameAgain(t *testing.T) {
	r := newSource()
	for range 2000 {
		l := someTexts(r, r.Intn(20))
		f, s := someFile(r), mixedText(r)
		kind := r.Intn(kindLast + 2)
		name1, err1 := Of(f)
		file1, ok1 := Parse(s)
		all1 := All(l, kind)
		Of(someFile(r))
		Parse(mixedText(r))
		All(someTexts(r, 5), kind)
		name2, err2 := Of(f)
		file2, ok2 := Parse(strings.Clone("w" + s)[1:])
		all2 := All(append(slices.Clone(l), "w0000000001", "v0000000001", "roster")[:len(l)], kind)
		if name1 != name2 || err1 != err2 || file1 != file2 || ok1 != ok2 || !slices.Equal(all1, all2) {
			t.Fatalf("%v, %q or %q is answered otherwise", f, s, l)
		}
	}
}

// R5: no texts, or an empty list of them, are the same.
func TestNoTexts(t *testing.T) {
	for kind := -1; kind <= kindLast+1; kind++ {
		for _, l := range [][]string{nil, {}, make([]string, 0, 9), someTexts(newSource(), 9)[:0]} {
			if got := All(l, kind); len(got) != 0 {
				t.Errorf("All(%q, %d) = %v", l, kind, got)
			}
		}
	}
}

// P1: Parse ends, and does not panic, at texts of any kind; beside false there is no file.
func FuzzParse(f *testing.F) {
	r := newSource()
	for range 50 {
		f.Add(mixedText(r))
	}
	f.Add("")
	f.Add("roster")
	f.Add("roster.new")
	f.Fuzz(func(t *testing.T, s string) {
		want, wantOK := plainParse(s)
		got, ok := Parse(s)
		if got != want || ok != wantOK {
			t.Fatalf("Parse(%q) = %v, %v; want %v, %v", s, got, ok, want, wantOK)
		}
	})
}

// P1: Of ends, and does not panic, at files of any kind; beside an error there is no name.
func FuzzOf(f *testing.F) {
	r := newSource()
	for range 50 {
		file := someFile(r)
		f.Add(file.Kind, file.Num)
	}
	for _, num := range numsThatDont() {
		f.Add(1+r.Intn(kindLast), num)
	}
	f.Fuzz(func(t *testing.T, kind, num int) {
		file := api.File{Kind: kind, Num: num}
		want := plainOf(file)
		s, err := Of(file)
		if s != want || (err == api.OK) != (want != "") || (err == api.ErrArg) != (want == "") {
			t.Fatalf("Of(%v) = %q, %d; want %q", file, s, err, want)
		}
	})
}

func BenchmarkAll(b *testing.B) {
	l := someTexts(newSource(), 1000)
	for b.Loop() {
		All(l, api.FileLog)
	}
}
