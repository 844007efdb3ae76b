package tests

import (
	"fmt"
	"regexp"
	"runtime"
	"slices"
	"strconv"
	"strings"
	"sync"
	"testing"
	"time"

	"loop.example/g00821/impl"
)

// form is a line of the table: how it is written, with N for a number, and what
// the image is then, and the answer. No answer is an error.
type form struct {
	line *regexp.Regexp
	tell func(b, n []int64) ([]int64, string)
}

func formOf(line string, tell func(b, n []int64) ([]int64, string)) form {
	return form{regexp.MustCompile("^" + strings.ReplaceAll(line, "N", "(0|[1-9][0-9]{0,8})") + "$"), tell}
}

// changing is of a line that is answered by the image that it makes.
func changing(line string, change func(b, n []int64) []int64) form {
	return formOf(line, func(b, n []int64) ([]int64, string) {
		if changed := change(b, n); len(changed) > 0 {
			return changed, "-"
		}
		return b, ""
	})
}

// telling is of a line that changes nothing.
func telling(line string, tell func(b, n []int64) string) form {
	return formOf(line, func(b, n []int64) ([]int64, string) {
		return b, tell(b, n)
	})
}

var forms = []form{
	changing("blank N", func(b, n []int64) []int64 { return impl.Blank(n[0]) }),
	changing("write N N N N N N N N N", func(b, n []int64) []int64 { return impl.Written(b, n[0], n[1:]) }),
	changing("shot N", func(b, n []int64) []int64 { return impl.Pictured(b, n[0]) }),
	changing("poke N N", func(b, n []int64) []int64 {
		if n[0] < int64(len(b)) && n[1] < 65536 {
			return withWord(b, int(n[0]), n[1])
		}
		return nil
	}),
	formOf("cut N", func(b, n []int64) ([]int64, string) {
		if n[0] <= int64(len(b)) {
			return slices.Clone(b[:n[0]]), "-"
		}
		return b, ""
	}),
	telling("check", wantCheck),
	telling("defects", func(b, n []int64) string {
		return strings.Trim(strings.ReplaceAll(wantLine(impl.DefectsIn(b), "-"), "} {", ", "), "{}")
	}),
	formOf("repair", func(b, n []int64) ([]int64, string) {
		repaired, _ := impl.Repaired(b)
		return repaired, strconv.Itoa(len(repaired) / 8)
	}),
	telling("read N N", func(b, n []int64) string { return wantLine(impl.ContentOf(b, n[0], n[1]), "") }),
	telling("counts", func(b, n []int64) string {
		if _, is := impl.HeadIn(b); !is {
			return ""
		}
		return wantLine(impl.CountsIn(b)[:(len(b)+7)/8], "")
	}),
	telling("table N", func(b, n []int64) string { return wantLine(impl.ClusterAt(b, n[0]), "") }),
	telling("names", func(b, n []int64) string { return wantLine(impl.NamesIn(b), "-") }),
}

// wantLine is the list as it is printed, without its brackets.
func wantLine[E any](list []E, none string) string {
	if len(list) == 0 {
		return none
	}
	return strings.Trim(fmt.Sprint(list), "[]")
}

func wantCheck(b, _ []int64) string {
	answer := []byte("nn ")
	if impl.Sound(b) {
		answer[0] = 'y'
	}
	if impl.Mild(b) {
		answer[1] = 'y'
	}
	return fmt.Sprint(string(answer), len(impl.DefectsIn(b)))
}

// wantAnswer is that of one line, and the image that there is then.
func wantAnswer(b []int64, line string) ([]int64, string) {
	for _, f := range forms {
		groups := f.line.FindStringSubmatch(line)
		if groups == nil {
			continue
		}
		var n []int64
		for _, digits := range groups[1:] {
			number, _ := strconv.ParseInt(digits, 10, 64)
			n = append(n, number)
		}
		after, answer := f.tell(b, n)
		if answer == "" {
			return b, "error"
		}
		return after, answer
	}
	return b, "error"
}

// wantBench goes through the text byte by byte.
func wantBench(text string) string {
	b, lines, line, answers := impl.Blank(16), 0, "", ""
	for i := range len(text) {
		if text[i] != 10 {
			line += text[i : i+1]
		}
		if text[i] != 10 && i < len(text)-1 {
			continue
		}
		if line != "" {
			var answer string
			b, answer = wantAnswer(b, line)
			answers += answer + "\n"
		}
		line = ""
		lines++
	}
	if len(text) > 6000 || lines > 300 {
		return ""
	}
	return answers
}

// text is such lines, each with its byte 10.
func text(lines ...string) string {
	return strings.Join(append(lines, ""), "\n")
}

// checkBench holds the answers against those that are wanted, and against those
// of the second telling.
func checkBench(t *testing.T, what, in, want string) {
	t.Helper()
	if got := impl.Bench(in); got != want {
		t.Errorf("%s: of\n%s\nit is told\n%s\nwant\n%s", what, in, got, want)
	}
	if second := wantBench(in); second != want {
		t.Fatalf("%s: the second telling of\n%s\nis\n%s\nwant\n%s", what, in, second, want)
	}
}

// checkTalk is of lines that each are followed by their answer.
func checkTalk(t *testing.T, what string, talk ...string) {
	t.Helper()
	var lines, answers []string
	for pair := range slices.Chunk(talk, 2) {
		lines, answers = append(lines, pair[0]), append(answers, pair[1])
	}
	checkBench(t, what, text(lines...), text(answers...))
}

// making is the lines by which the bench comes to have that image, each answered
// by a -: a disk is written until it is large enough, is cut, and each word that
// differs is another one.
func making(b []int64) []string {
	lines, has := []string{"blank 64"}, impl.Blank(64)
	for g := int64(0); len(has) < len(b); g++ {
		lines = append(lines, fmt.Sprintf("write %d 0 0 0 0 0 0 0 0", g))
		has = impl.Written(has, g, make([]int64, 8))
	}
	lines = append(lines, fmt.Sprint("cut ", len(b)))
	for at, w := range b {
		if has[at] != w {
			lines = append(lines, fmt.Sprintf("poke %d %d", at, w))
		}
	}
	return lines
}

// checkTalkOf is a talk that begins with that image.
func checkTalkOf(t *testing.T, what string, b []int64, talk ...string) {
	t.Helper()
	var whole []string
	for _, line := range making(b) {
		whole = append(whole, line, "-")
	}
	checkTalk(t, what, append(whole, talk...)...)
}

// looks are lines by which all is told of the image that there is to be, and
// their answers.
func looks(b []int64) []string {
	var talk []string
	for _, line := range []string{"check", "counts", "names", "defects", "read 0 2", "read 1 2"} {
		_, answer := wantAnswer(b, line)
		talk = append(talk, line, answer)
	}
	for at := range wantMany(b) {
		talk = append(talk, fmt.Sprint("table ", at), strings.Trim(fmt.Sprint(wantCluster(b, at)), "[]"))
	}
	return append(talk, fmt.Sprint("table ", wantMany(b)), "error")
}

// checkErrors: each of the lines is an error, and changes nothing.
func checkErrors(t *testing.T, what string, b []int64, lines ...string) {
	t.Helper()
	for _, line := range lines {
		checkTalkOf(t, fmt.Sprintf("%s: %q", what, line), b, slices.Concat(looks(b), []string{line, "error"}, looks(b))...)
	}
}

// rightLines are one of each sort, each answered by something where the image is
// someDisk.
func rightLines() []string {
	return []string{"blank 20", "write 3 1 2 3 4 5 6 7 8", "shot 99", "poke 24 9", "cut 40", "check", "defects", "repair", "read 0 2", "counts", "table 4", "names"}
}

// mildOf is someDisk of which more is stored than is counted.
func mildOf() []int64 {
	return withWord(someDisk(), 24, 9)
}

// TestBenchInTurn is of each line of the table.
func TestBenchInTurn(t *testing.T) {
	checkTalk(t, "a disk",
		"check", "yy 0",
		"defects", "-",
		"names", "-",
		"counts", "1 1 1 1",
		"table 0", "20559 3 16 1 2 0 0 0",
		"table 2", "3 0 0 0 0 0 0 0",
		"read 0 15", "0 0 0 0 0 0 0 0",
		"write 2 7 7 7 7 7 7 7 9", "-",
		"table 1", "32772 0 0 0 0 0 0 0",
		"table 4", "0 0 32773 0 0 0 0 0",
		"read 0 2", "7 7 7 7 7 7 7 9",
		"counts", "1 1 1 1 1 1",
		"shot 99", "-",
		"names", "99",
		"counts", "1 1 1 1 2 2 1 1",
		"write 2 0 1 65535 3 4 5 6 7", "-",
		"read 0 2", "0 1 65535 3 4 5 6 7",
		"read 1 2", "7 7 7 7 7 7 7 9",
		"check", "yy 0",
		"poke 24 65535", "-",
		"check", "ny 1",
		"defects", "6 0 65535",
		"poke 24 0", "-",
		"check", "nn 1",
		"defects", "5 0 0",
		"repair", "11",
		"check", "yy 0",
		"cut 40", "-",
		"check", "nn 7",
		"table 4", "0 0 32773 0 0 0 0 0",
		"blank 20", "-",
		"table 0", "20559 3 20 1 2 0 0 0",
		"table 4", "error",
	)
}

// TestBenchBeginsAnew: each text with Blank 16.
func TestBenchBeginsAnew(t *testing.T) {
	for range 3 {
		checkTalk(t, "a new text", "table 0", "20559 3 16 1 2 0 0 0", "table 1", "0 0 0 0 0 0 0 0", "table 2", "3 0 0 0 0 0 0 0",
			"table 3", "1 1 1 1 0 0 0 0", "table 4", "error", "read 0 15", "0 0 0 0 0 0 0 0", "read 0 16", "error", "poke 0 1", "-", "shot 1", "error")
		checkTalk(t, "another one", "blank 1", "-", "shot 7", "-", "names", "7", "cut 0", "-")
	}
}

// TestWordsTooManyAndTooFew: of each line, as it is and with one word more or
// some less, ahead, within and behind.
func TestWordsTooManyAndTooFew(t *testing.T) {
	for _, line := range rightLines() {
		_, answer := wantAnswer(someDisk(), line)
		if answer == "error" {
			t.Fatalf("%q is no right line", line)
		}
		checkTalkOf(t, "as it is", someDisk(), line, answer)
		words := strings.Split(line, " ")
		for _, extra := range []string{"0", "1", "8", "65535", "x", "-", words[0], line} {
			checkErrors(t, "a word too many", someDisk(), line+" "+extra, extra+" "+line, strings.Join(slices.Insert(slices.Clone(words), 1, extra), " "))
		}
		for many := 1; many < len(words); many++ {
			checkErrors(t, "a word too few", someDisk(), strings.Join(words[:many], " "), strings.Join(words[many:], " "))
		}
	}
}

func TestFirstWords(t *testing.T) {
	checkErrors(t, "none of the table's", someDisk(), "hop", "x", "0", "20", "-", "error", "help", "size 20", "write2 1 2 3 4 5 6 7 8", "Blank 20", "\"check\"")
	for _, line := range rightLines() {
		first, rest, _ := strings.Cut(line, " ")
		if rest != "" {
			rest = " " + rest
		}
		checkErrors(t, "nearly one of the table's", someDisk(), strings.ToUpper(first)+rest, strings.ToUpper(first[:1])+first[1:]+rest, first[:len(first)-1]+rest,
			first[1:]+rest, first+"s"+rest, first+"1"+rest, first+first+rest, first+"-"+rest, "x"+first+rest, first+","+rest, first+";", first[:1]+rest)
		if rest != "" {
			checkErrors(t, "no blank", someDisk(), first+rest[1:])
		}
	}
}

// noNumbers are words that are no number anywhere, and such as are too large for
// each call, also where all that is above 32 or 64 bits is lost.
func noNumbers() []string {
	return []string{
		"", "-1", "+1", "-0", "+0", "--1", "-", "+", "00", "01", "007", "000000001", "0000000001", "x", "1x", "x1", "a", "0x1", "0b1", "1e1", "1.0", "1.", ".1", "1_0", "1,", "1'0", "'1'",
		"1234567890", "1000000000", "0123456789", "999999999", "999999999999", "4294967296", "4294967297", "9223372036854775807", "9223372036854775808", "18446744073709551616", "18446744073709551617",
		"1\t", "\t1", "1\r", "\x001", "1\x00", "\xff", "1\x80", "\u0661", "\uff11", "1\u00a0", "NaN", "Inf", "nil", "eins",
	}
}

// TestNoNumbers: in each place of each line where a number must be.
func TestNoNumbers(t *testing.T) {
	for _, line := range rightLines() {
		words := strings.Split(line, " ")
		for at := 1; at < len(words); at++ {
			for _, no := range noNumbers() {
				spoilt := slices.Clone(words)
				spoilt[at] = no
				checkErrors(t, "no number", someDisk(), strings.Join(spoilt, " "))
			}
		}
	}
}

// TestNineDigits: a number may have nine, where the call is right with it; ten
// are none, though the line is wrong for its sake alone.
func TestNineDigits(t *testing.T) {
	for _, c := range []struct{ line, answer string }{
		{"blank 100000000", "error"}, {"shot 100000000", "error"}, {"poke 999999999 1", "error"}, {"poke 1 999999999", "error"}, {"cut 999999999", "error"},
		{"table 999999999", "error"}, {"read 999999999 1", "error"}, {"read 0 999999999", "error"}, {"read 999999999 999999999", "error"},
		{"write 999999999 1 2 3 4 5 6 7 8", "error"}, {"write 1 1 2 3 4 5 6 7 999999999", "error"},
	} {
		checkTalkOf(t, "nine digits", someDisk(), c.line, c.answer)
		checkErrors(t, "nine digits", someDisk(), c.line)
	}
}

// TestBlanks: each is the end of a word, and nothing else is.
func TestBlanks(t *testing.T) {
	for _, line := range rightLines() {
		checkErrors(t, "a blank", someDisk(), " "+line, line+" ", "  "+line, line+"  ", " "+line+" ")
		if first, rest, more := strings.Cut(line, " "); more {
			for _, between := range []string{"  ", "   ", "\t", "\t ", " \t", "\r", "\v", "\f", "\x00", "\x1f", "!", "\x80", "\xa0", "\xff", "\u00a0", "\u2003", "\u3000", ",", ", ", "_"} {
				checkErrors(t, "between words", someDisk(), first+between+rest)
			}
			last := strings.LastIndex(line, " ")
			checkErrors(t, "two blanks ahead of the last word", someDisk(), line[:last]+" "+line[last:])
		}
		for _, odd := range []string{"\t", "\r", "\x00", "\v", "\f", "\x1f", "\x7f", "\x80", "\xff", "\u00a0", "\u2003", "\ufeff"} {
			checkErrors(t, "an odd byte", someDisk(), line+odd, odd+line, line[:2]+odd+line[2:], line+" "+odd, odd+" "+line, odd)
		}
	}
	checkErrors(t, "nothing but blanks", someDisk(), " ", "  ", "   ", " \t ", "\t", "\r", "\x00", strings.Repeat(" ", 100))
}

// TestEachByte: as a line of its own, behind a line and ahead of it; 10 alone
// ends one.
func TestEachByte(t *testing.T) {
	for c := range 256 {
		odd := string([]byte{byte(c)})
		if c == 10 {
			checkBench(t, "10", "check"+odd+odd+"check"+odd+"names"+odd, "yy 0\nyy 0\n-\n")
			continue
		}
		checkBench(t, fmt.Sprint("the byte ", c), "check\n"+odd+"\nnames"+odd+"\n"+odd+"names\nna"+odd+"mes\ncheck", "yy 0\nerror\nerror\nerror\nerror\nyy 0\n")
		between := "error"
		if c == ' ' {
			between = "3 0 0 0 0 0 0 0"
		}
		checkBench(t, fmt.Sprint("the byte ", c), "table"+odd+"2\n", between+"\n")
		number := "error"
		if c >= '0' && c <= '3' {
			number = wantLine(wantCluster(impl.Blank(16), c-'0'), "")
		}
		checkBench(t, fmt.Sprint("the byte ", c), "table "+odd+"\n", number+"\n")
	}
}

func TestLinesWithoutAByte(t *testing.T) {
	for _, c := range []struct{ in, want string }{
		{"", ""},
		{"\n", ""},
		{"\n\n\n", ""},
		{"check", "yy 0\n"},
		{"check\n", "yy 0\n"},
		{"check\n\n", "yy 0\n"},
		{"\ncheck", "yy 0\n"},
		{"\n\n\ncheck\n\n\nnames\n\n\n", "yy 0\n-\n"},
		{"check\nnames", "yy 0\n-\n"},
		{"check\nnames\n", "yy 0\n-\n"},
		{"hop", "error\n"},
		{"hop\n", "error\n"},
		{" ", "error\n"},
		{"check\n ", "yy 0\nerror\n"},
		{"\n \n", "error\n"},
		{"blank 8\n\ntable 0\n", "-\n20559 3 8 1 2 0 0 0\n"},
		{"poke 24 9\n\n\n\ncheck", "-\nny 1\n"},
		{"check\r\nnames\r\n", "error\nerror\n"},
		{"check\n\rnames", "yy 0\nerror\n"},
		{"\r\n", "error\n"},
	} {
		checkBench(t, "lines", c.in, c.want)
	}
}

func TestBlankLines(t *testing.T) {
	for _, size := range []int64{1, 2, 8, 9, 16, 63, 64} {
		checkTalk(t, "blank", "poke 0 5", "-", fmt.Sprint("blank ", size), "-", "check", "yy 0", "table 0", fmt.Sprintf("20559 3 %d 1 2 0 0 0", size), "table 4", "error",
			fmt.Sprintf("read 0 %d", size-1), "0 0 0 0 0 0 0 0", fmt.Sprintf("read 0 %d", size), "error", "names", "-")
		checkTalkOf(t, "blank", inOrder(), fmt.Sprint("blank ", size), "-", "counts", "1 1 1 1", "table 1", "0 0 0 0 0 0 0 0", "table 2", "3 0 0 0 0 0 0 0", "table 3", "1 1 1 1 0 0 0 0")
	}
	for _, b := range [][]int64{someDisk(), inOrder(), mildOf(), someDisk()[:43], {}} {
		checkErrors(t, "blank", b, "blank 0", "blank 65", "blank 66", "blank 128", "blank 65536")
	}
}

func TestWriteLines(t *testing.T) {
	checkTalkOf(t, "write", someDisk(),
		"write 3 1 2 3 4 5 6 7", "error",
		"write 3 1 2 3 4 5 6 7 8 9", "error",
		"write 3 1 2 3 4 5 6 7 8", "-",
		"read 0 3", "1 2 3 4 5 6 7 8",
		"counts", "1 1 1 1 1 1 1",
		"write 19 65535 0 0 0 0 0 0 65535", "-",
		"read 0 19", "65535 0 0 0 0 0 0 65535",
		"write 0 0 0 0 0 0 0 0 0", "-",
		"read 0 0", "0 0 0 0 0 0 0 0",
		"table 4", "32778 0 32773 32774 0 0 0 0",
		"read 0 2", "7 7 7 7 7 7 7 9",
		"check", "yy 0",
	)
	checkErrors(t, "write", someDisk(), "write 20 1 2 3 4 5 6 7 8", "write 21 1 2 3 4 5 6 7 8", "write 64 1 2 3 4 5 6 7 8", "write 1 1 2 3 4 5 6 7", "write 1 1 2 3 4 5 6 7 8 9")
	for at := range 8 {
		words := make([]int64, 8)
		words[at] = 65535
		checkTalkOf(t, "write", someDisk(), "write 2 "+wantLine(words, ""), "-", "read 0 2", wantLine(words, ""))
		words[at] = 65536
		checkErrors(t, "write", someDisk(), "write 2 "+wantLine(words, ""), "write 3 "+wantLine(words, ""), "write 8 "+wantLine(words, ""))
	}
	for _, b := range notSoundHere() {
		checkErrors(t, "write", b, "write 2 1 2 3 4 5 6 7 8", "write 3 1 2 3 4 5 6 7 8", "write 0 0 0 0 0 0 0 0 0", "shot 1", "shot 0")
	}
}

// notSoundHere are images of which each has another defect alone, one with
// several, and such as have no Head.
func notSoundHere() [][]int64 {
	images := slices.Concat(eachDefect(), [][]int64{someDisk()[:41], {}, {20559}, {20559, 3}, {20559, 3, 20}, withWord(someDisk(), 2, 0), withWord(someDisk(), 6, 5)})
	for _, b := range images {
		if wantSound(b) {
			panic("it is Sound")
		}
	}
	return images
}

// eachDefect are images by the kind of the one defect that each has.
func eachDefect() [][]int64 {
	// The cluster that lacks words is nobody's.
	long := append(someDisk(), 1, 2, 3)
	images := [][]int64{withWord(someDisk(), 0, 0), long, withWord(someDisk(), 35, 99), withWord(someDisk(), 5, 3), withWord(someDisk(), 29, 0), mildOf(), withWord(someDisk(), 34, 5)}
	for i, b := range images {
		if defects := impl.DefectsIn(b); len(defects) != 1 || defects[0].Kind != int64(i+1) {
			panic(fmt.Sprint("the kind ", i+1, ": ", defects))
		}
	}
	return images
}

func TestShotLines(t *testing.T) {
	checkTalkOf(t, "shot", someDisk(),
		"names", "-",
		"shot 65536", "error",
		"names", "-",
		"shot 65535", "-",
		"names", "65535",
		"shot 0", "-",
		"write 2 1 2 3 4 5 6 7 8", "-",
		"names", "65535 0",
		"shot 99", "-",
		"shot 99", "-",
		"names", "65535 0 99 99",
		"shot 5", "error",
		"shot 99", "error",
		"names", "65535 0 99 99",
		"read 0 2", "1 2 3 4 5 6 7 8",
		"read 1 2", "7 7 7 7 7 7 7 9",
		"read 2 2", "7 7 7 7 7 7 7 9",
		"read 3 2", "1 2 3 4 5 6 7 8",
		"read 4 2", "1 2 3 4 5 6 7 8",
		"read 5 2", "error",
		"check", "yy 0",
	)
	checkErrors(t, "shot", shotOfDisk(), "shot 65536", "shot 65537", "shot 131071", "shot")
	four := impl.Pictured(impl.Pictured(impl.Pictured(shotOfDisk(), 1), 2), 3)
	checkErrors(t, "a fifth one", four, "shot 1", "shot 65535", "shot 65536", "shot 99")
}

func TestPokeLines(t *testing.T) {
	checkTalkOf(t, "poke", someDisk(),
		"poke 47 65535", "-",
		"table 5", "7 7 7 7 7 7 7 65535",
		"poke 47 65536", "error",
		"poke 48 1", "error",
		"poke 48 0", "error",
		"table 5", "7 7 7 7 7 7 7 65535",
		"table 6", "error",
		"poke 47 0", "-",
		"poke 40 1", "-",
		"poke 47 0", "-",
		"read 0 2", "1 7 7 7 7 7 7 0",
		"check", "yy 0",
		"poke 0 0", "-",
		"check", "nn 1",
		"poke 0 20559", "-",
		"check", "yy 0",
	)
	// What the last cluster lacks is no word.
	checkTalkOf(t, "poke", someDisk()[:43], "poke 42 65535", "-", "poke 43 1", "error", "table 5", "7 7 65535 0 0 0 0 0", "poke 47 1", "error", "table 5", "7 7 65535 0 0 0 0 0")
	checkErrors(t, "poke", someDisk(), "poke 48 1", "poke 49 1", "poke 0 65536", "poke 47 65536", "poke 48 65536", "poke 512 1", "poke 65535 1")
	checkErrors(t, "poke", someDisk()[:43], "poke 43 0", "poke 43 5", "poke 44 0", "poke 48 0")
	checkErrors(t, "poke", []int64{}, "poke 0 0", "poke 0 1", "poke 1 1", "poke 0 65536")
	checkErrors(t, "poke", []int64{20559}, "poke 1 3", "poke 0 65536")
}

func TestCutLines(t *testing.T) {
	checkTalkOf(t, "cut", someDisk(),
		"cut 49", "error",
		"cut 48", "-",
		"check", "yy 0",
		"cut 47", "-",
		"check", "nn 1",
		"defects", "2 47 0",
		"table 5", "7 7 7 7 7 7 7 0",
		"poke 47 9", "error",
		"cut 48", "error",
		"cut 47", "-",
		"cut 41", "-",
		"table 5", "7 0 0 0 0 0 0 0",
		"cut 40", "-",
		"table 5", "error",
		"defects", "3 8 5, 6 5 1",
		"cut 3", "-",
		"table 0", "20559 3 20 0 0 0 0 0",
		"cut 2", "-",
		"defects", "1 0 0",
		"cut 0", "-",
		"table 0", "error",
		"cut 1", "error",
		"cut 0", "-",
		"repair", "4",
	)
	for n := range 49 {
		b := someDisk()[:n]
		checkTalkOf(t, "cut", b, looks(b)...)
		checkErrors(t, "cut", b, fmt.Sprint("cut ", n+1), fmt.Sprint("cut ", n+8), "cut 512", "cut 513")
		checkTalkOf(t, "cut", b, slices.Concat([]string{fmt.Sprint("cut ", n), "-"}, looks(b))...)
	}
}

// TestWhatIsCutIsGone: what is written behind it later is not what was there.
func TestWhatIsCutIsGone(t *testing.T) {
	checkTalkOf(t, "cut", impl.Written(someDisk(), 3, nines),
		"cut 32", "-",
		"repair", "4",
		"write 3 1 2 3 4 5 6 7 8", "-",
		"read 0 2", "0 0 0 0 0 0 0 0",
		"read 0 3", "1 2 3 4 5 6 7 8",
		"table 5", "1 2 3 4 5 6 7 8",
		"table 6", "error",
		"check", "yy 0",
	)
}

// TestCheckLines: y and y, n and y, n and n; y and n can't be, since who is Sound
// is Mild.
func TestCheckLines(t *testing.T) {
	for i, answer := range []string{"nn 1", "nn 1", "nn 1", "nn 1", "nn 1", "ny 1", "ny 1"} {
		checkTalkOf(t, fmt.Sprint("the kind ", i+1), eachDefect()[i], "check", answer)
	}
	for _, b := range soundImages()[:6] {
		checkTalkOf(t, "Sound", b, "check", "yy 0")
	}
	checkTalkOf(t, "several", withWords(someDisk(), [2]int64{24, 9}, [2]int64{25, 9}), "check", "ny 2")
	checkTalkOf(t, "several", withWords(someDisk(), [2]int64{24, 9}, [2]int64{25, 0}), "check", "nn 2")
	checkTalkOf(t, "no Head", withWord(someDisk(), 1, 4), "check", "nn 1")
	checkTalkOf(t, "no words", nil, "check", "nn 1")
	checkTalk(t, "many", "cut 16", "-", "check", "nn 3", "blank 64", "-", "cut 3", "-", "check", "nn 4")
}

func TestDefectsLines(t *testing.T) {
	checkTalk(t, "none", "defects", "-")
	for i, answer := range []string{"1 0 0", "2 51 0", "3 8 99", "4 3 0", "5 5 0", "6 0 9", "7 4 2"} {
		checkTalkOf(t, fmt.Sprint("the kind ", i+1), eachDefect()[i], "defects", answer)
	}
	checkTalkOf(t, "two", withWords(someDisk(), [2]int64{24, 9}, [2]int64{34, 5}), "defects", "6 0 9, 7 4 2")
	checkTalkOf(t, "all of them but the first", append(withWords(someDisk(), [2]int64{5, 65535}, [2]int64{24, 65535}, [2]int64{25, 0}, [2]int64{33, 32767}, [2]int64{34, 5}), 0), "defects",
		"2 49 0, 3 8 32767, 4 65535 0, 6 0 65535, 5 1 0, 7 4 2")
	checkTalkOf(t, "no Head", someDisk()[:2], "defects", "1 0 0")
	checkTalkOf(t, "no Head", withWord(someDisk(), 2, 65), "defects", "1 0 0")
	checkTalkOf(t, "no words", nil, "defects", "1 0 0")
}

func TestRepairLines(t *testing.T) {
	blank := []string{"check", "yy 0", "table 0", "20559 3 8 1 2 0 0 0", "table 3", "1 1 1 1 0 0 0 0", "table 4", "error"}
	for _, b := range [][]int64{nil, {0}, someDisk()[:2], withWord(someDisk(), 0, 20558), withWord(someDisk(), 2, 0), make([]int64, 64), withWord(inOrder(), 7, 1)} {
		checkTalkOf(t, "no Head", b, slices.Concat([]string{"repair", "4"}, blank)...)
	}
	for _, b := range soundImages()[:6] {
		checkTalkOf(t, "Sound", b, slices.Concat([]string{"repair", fmt.Sprint(len(b) / 8)}, looks(b))...)
	}
	for i, b := range append(eachDefect(), someDisk()[:41], withWord(someDisk(), 4, 0), withWord(someDisk(), 3, 0)) {
		want := wantRepaired(b)
		if i == 0 {
			want = wantBlank(8)
		}
		checkTalkOf(t, fmt.Sprint("the image ", i), b, slices.Concat([]string{"repair", fmt.Sprint(len(want) / 8)}, looks(want))...)
	}
	checkTalkOf(t, "no Refs", withWord(someDisk(), 4, 0), "repair", "8", "check", "yy 0", "read 0 2", "7 7 7 7 7 7 7 9")
	checkTalkOf(t, "the first table is lost", withWord(someDisk(), 3, 0), "repair", "7", "table 0", "20559 3 20 6 2 0 0 0", "table 6", "32769 32772 0 0 0 0 0 0", "read 0 10", "7 7 7 7 7 7 7 9")
	checkTalk(t, "no room", slices.Concat([]string{"blank 64", "-"}, filling(),
		[]string{"read 0 2", "3 0 0 0 0 0 0 0", "poke 4 0", "-", "repair", "4", "table 0", "20559 3 64 1 2 0 0 0", "read 0 2", "0 0 0 0 0 0 0 0"})...)
}

// filling is of a disk of 64 that is written until there is no room any more.
func filling() []string {
	var talk []string
	b := impl.Blank(64)
	for g := range 64 {
		line := fmt.Sprintf("write %d %d 0 0 0 0 0 0 0", g, g+1)
		after, answer := wantAnswer(b, line)
		talk = append(talk, line, answer)
		b = after
	}
	if len(b) < 500 || talk[len(talk)-1] != "error" {
		panic("it is not full")
	}
	return append(talk, "check", "yy 0", "table 62", wantLine(wantCluster(b, 62), ""), "counts", wantLine(impl.CountsIn(b)[:len(b)/8], ""))
}

func TestReadLines(t *testing.T) {
	checkTalkOf(t, "read", inOrder(),
		"read 0 0", "0 0 0 0 0 0 0 0",
		"read 0 1", "1 2 3 4 5 6 7 8",
		"read 0 16", "32768 32780 12 0 0 0 0 0",
		"read 0 19", "0 0 0 0 0 0 0 0",
		"read 1 1", "65535 32769 1 2 3 4 5 6",
		"read 1 16", "32768 32780 12 0 0 0 0 0",
		"read 2 1", "65535 32769 1 2 3 4 5 6",
		"read 2 15", "65535 32769 1 2 3 4 5 6",
		"read 0 20", "error",
		"read 1 20", "error",
		"read 2 19", "0 0 0 0 0 0 0 0",
		"read 2 20", "error",
		"read 3 0", "error",
		"read 3 20", "error",
		"read 65535 0", "error",
		"read 0 65535", "error",
	)
	checkErrors(t, "read", inOrder(), "read 3 1", "read 0 20", "read 1 20", "read 2 20", "read 4 0", "read 0 64")
	checkErrors(t, "read", someDisk(), "read 1 0", "read 1 2", "read 0 20")
	checkErrors(t, "no Head", withWord(someDisk(), 0, 0), "read 0 2", "read 0 0", "read 1 0")
	checkErrors(t, "no words", nil, "read 0 0")
	four := fourShots(4, 91, 9, 92, 5, 93, 9, 94, 7)
	var talk []string
	for which := range int64(6) {
		for g := range int64(9) {
			answer := "error"
			if which < 5 {
				answer = wantLine(wantContent(four, which, g), "error")
			}
			talk = append(talk, fmt.Sprintf("read %d %d", which, g), answer)
		}
	}
	checkTalkOf(t, "four Shots", four, talk...)
}

func TestCountsLines(t *testing.T) {
	checkTalkOf(t, "counts", someDisk(), "counts", "1 1 1 1 1 1")
	checkTalkOf(t, "counts", shotOfDisk(), "counts", "1 1 1 1 2 2 1 1")
	checkTalkOf(t, "counts", inOrder(), "counts", "1 1 1 1 2 1 2 1 1 1 1 1 1 2 3")
	// A last cluster that lacks words is there, and is counted.
	checkTalkOf(t, "counts", someDisk()[:41], "counts", "1 1 1 1 1 1")
	checkTalkOf(t, "counts", someDisk()[:40], "counts", "1 1 1 1 1")
	checkTalkOf(t, "counts", someDisk()[:3], "counts", "1")
	checkTalkOf(t, "counts", append(someDisk(), 0, 0), "counts", "1 1 1 1 1 1 0")
	checkTalk(t, "many", slices.Concat([]string{"blank 64", "-"}, filling())...)
	for _, b := range [][]int64{nil, {20559}, someDisk()[:2], withWord(someDisk(), 0, 0), withWord(someDisk(), 1, 2), withWord(someDisk(), 2, 65), withWord(someDisk(), 6, 5), withWord(someDisk(), 7, 1)} {
		checkTalkOf(t, "no Head", b, "counts", "error")
		checkErrors(t, "no Head", b, "counts")
	}
}

func TestTableLines(t *testing.T) {
	for _, b := range [][]int64{someDisk(), inOrder(), shotOfDisk(), someDisk()[:43], someDisk()[:41], someDisk()[:40], {1}, counting(15), withWord(someDisk(), 0, 0)} {
		var talk []string
		for at := range wantMany(b) {
			talk = append(talk, fmt.Sprint("table ", at), wantLine(wantCluster(b, at), ""))
		}
		checkTalkOf(t, "table", b, append(talk, fmt.Sprint("table ", wantMany(b)), "error", fmt.Sprint("table ", wantMany(b)+1), "error", "table 64", "error")...)
		checkErrors(t, "table", b, fmt.Sprint("table ", wantMany(b)), fmt.Sprint("table ", len(b)+8), "table 65536")
	}
	checkTalkOf(t, "table", someDisk(), "table 0", "20559 3 20 1 2 0 0 0", "table 5", "7 7 7 7 7 7 7 9", "table 6", "error")
	checkTalkOf(t, "no words", nil, "table 0", "error", "table 1", "error")
}

func TestNamesLines(t *testing.T) {
	checkTalkOf(t, "none", someDisk(), "names", "-")
	checkTalkOf(t, "one", shotOfDisk(), "names", "99")
	checkTalkOf(t, "two", inOrder(), "names", "91 92")
	checkTalkOf(t, "four", fourShots(4, 91, 9, 92, 5, 0, 9, 65535, 7), "names", "91 92 0 65535")
	checkTalkOf(t, "one of the name 0", withWord(shotOfDisk(), 48, 0), "names", "0")
	checkTalkOf(t, "Shots are not there", withWord(shotOfDisk(), 5, 99), "names", "-")
	for _, b := range [][]int64{nil, {1}, someDisk()[:2], withWord(shotOfDisk(), 0, 0), withWord(shotOfDisk(), 6, 5)} {
		checkTalkOf(t, "no Head", b, "names", "-")
	}
}

// TestErrorsChangeNothing: each line that is wrong somewhere, of images of each
// sort.
func TestErrorsChangeNothing(t *testing.T) {
	always := []string{"blank 0", "blank 65", "write 64 1 2 3 4 5 6 7 8", "write 2 1 2 3 4 5 6 7", "write 2 1 2 3 4 5 6 7 65536", "shot 65536", "poke 512 1", "poke 0 65536",
		"cut 513", "check 0", "defects 0", "repair 0", "repair 8", "read 5 0", "read 0 64", "counts 0", "table 64", "names 0", "hop", " ", "blank", "shot", "cut", "poke 0", "poke 0 1 2"}
	images := slices.Concat(soundImages()[:6], notSoundHere(), [][]int64{mildOf(), twiceInOne(), fourShots(4, 91, 9, 92, 5, 93, 9, 94, 7)})
	for _, b := range images {
		checkErrors(t, "always", b, always...)
	}
}

func TestLinesThatTellChangeNothing(t *testing.T) {
	for _, b := range slices.Concat(soundImages()[:6], notSoundHere()) {
		checkTalkOf(t, "told twice", b, slices.Concat(looks(b), looks(b), looks(b))...)
	}
}

// lineOf is a right line of so many bytes, without its byte 10.
func lineOf(many int) string {
	words := "write 2 7 7 7 7 7 7 7 " + strings.Repeat("1", 5)
	if many < 23 || many > len(words) {
		panic("no line is so long")
	}
	return words[:many]
}

func TestMaxBench(t *testing.T) {
	if impl.MaxBench != 6000 || impl.MaxLines != 300 {
		t.Fatalf("MaxBench is %d, MaxLines %d", impl.MaxBench, impl.MaxLines)
	}
	// 250 lines, each of 24 bytes with its byte 10.
	whole := strings.Repeat(lineOf(23)+"\n", 250)
	dashes := strings.Repeat("-\n", 250)
	checkBench(t, "5999 bytes", whole[:5999], dashes)
	checkBench(t, "6000 bytes", whole, dashes)
	checkBench(t, "6000 bytes, the last line without its byte 10", whole[:5976]+lineOf(24), dashes)
	for _, more := range []string{"\n", " ", "x", "0", "check\n", whole} {
		checkBench(t, "more than 6000 bytes", whole+more, "")
		checkBench(t, "more than 6000 bytes", more+whole, "")
	}
	checkBench(t, "6001 bytes, the last line without its byte 10", whole[:5976]+lineOf(25), "")
	checkBench(t, "one line of 6000 bytes", strings.Repeat("x", 6000), "error\n")
	checkBench(t, "one line of 6001 bytes", strings.Repeat("x", 6001), "")
	checkBench(t, "6000 blanks", strings.Repeat(" ", 6000), "error\n")
	checkBench(t, "6001 blanks", strings.Repeat(" ", 6001), "")
	checkBench(t, "check and 5993 blanks", "check\n"+strings.Repeat(" ", 5993)+"\n", "yy 0\nerror\n")
	checkBench(t, "check and 5995 blanks", "check\n"+strings.Repeat(" ", 5994)+"\n", "")
	for _, many := range []int{6000, 6001, 7000, 100000} {
		checkBench(t, "bytes 10 alone", strings.Repeat("\n", many), "")
	}
	if got := impl.Bench(strings.Repeat("check\n", 1<<20)); got != "" {
		t.Errorf("very many lines: %d bytes", len(got))
	}
}

func TestMaxLines(t *testing.T) {
	all, answers := strings.Repeat("check\n", 300), strings.Repeat("yy 0\n", 300)
	none := strings.Repeat("\n", 300)
	for _, c := range []struct{ what, in, want string }{
		{"299 lines", all[6:], answers[5:]},
		{"299 lines, the last one without its byte 10", all[6:1799], answers[5:]},
		{"300 lines", all, answers},
		{"300 lines, the last one without its byte 10", all[:1799], answers},
		{"301 lines", all + "check\n", ""},
		{"301 lines, the last one without its byte 10", all + "check", ""},
		{"301 lines, the last one of one byte", all + "x", ""},
		{"301 lines, the last one of one blank", all + " ", ""},
		{"301 lines, the last one without a byte", all + "\n", ""},
		{"301 lines, the first one without a byte", "\n" + all, ""},
		{"301 lines, the first one without a byte, the last one without its byte 10", "\n" + all[:1799], ""},
		{"300 lines, the first one without a byte", "\n" + all[6:], answers[5:]},
		{"300 lines, the last one without a byte", all[6:] + "\n", answers[5:]},
		{"300 lines, 299 of them without a byte", "check\n" + none[1:], "yy 0\n"},
		{"301 lines, 300 of them without a byte", "check\n" + none, ""},
		{"300 lines, the last one not without a byte", none[1:] + "check\n", "yy 0\n"},
		{"300 lines, the last one not without a byte and without its byte 10", none[1:] + "check", "yy 0\n"},
		{"301 lines, the last one not without a byte", none + "check\n", ""},
		{"301 lines, the last one not without a byte and without its byte 10", none + "check", ""},
		{"300 lines without a byte", none, ""},
		{"302 lines", all + "\n\n", ""},
		{"600 lines", all + all, ""},
		{"300 lines that are wrong", strings.Repeat("x\n", 300), strings.Repeat("error\n", 300)},
		{"301 lines that are wrong", strings.Repeat("x\n", 301), ""},
		{"300 lines of 6000 bytes", strings.Repeat(strings.Repeat("x", 19)+"\n", 300), strings.Repeat("error\n", 300)},
		{"300 lines of 6001 bytes", strings.Repeat(strings.Repeat("x", 19)+"\n", 299) + strings.Repeat("x", 20) + "\n", ""},
		{"301 lines of 6000 bytes", strings.Repeat(strings.Repeat("x", 19)+"\n", 299) + strings.Repeat("x", 18) + "\n\n", ""},
	} {
		checkBench(t, c.what, c.in, c.want)
	}
}

// drawer draws numbers by a rule, so that each run is of the same ones.
type drawer uint64

func (d *drawer) below(many int) int {
	*d = *d*6364136223846793005 + 1442695040888963407
	return int((uint64(*d) >> 33) % uint64(many))
}

func (d *drawer) one(of ...string) string {
	return of[d.below(len(of))]
}

// word is a number of eight that are written, or that pokes: it leads somewhere
// mostly.
func (d *drawer) word() int {
	switch d.below(8) {
	case 0:
		return d.below(65536)
	case 1:
		return 65535 + d.below(2)
	default:
		return d.below(12) + 32768*d.below(2)
	}
}

// line is one that is right mostly.
func (d *drawer) line() string {
	switch d.below(24) {
	case 0:
		return d.one("blank 1", "blank 8", "blank 16", "blank 20", "blank 64", "blank 0", "blank 65")
	case 1, 2, 3, 4, 5:
		line := fmt.Sprint("write ", d.below(18))
		for range 8 {
			line += fmt.Sprint(" ", d.word()%65536)
		}
		return line
	case 6, 7:
		return fmt.Sprint("shot ", d.word())
	case 8, 9, 10:
		return fmt.Sprint("poke ", 2+d.below(70), " ", d.word())
	case 11:
		return fmt.Sprint("cut ", 24+d.below(50))
	case 12, 13:
		return "check"
	case 14, 15:
		return "defects"
	case 16, 17:
		return "repair"
	case 18:
		return fmt.Sprint("read ", d.below(4), " ", d.below(18))
	case 19:
		return "counts"
	case 20:
		return fmt.Sprint("table ", d.below(10))
	case 21:
		return "names"
	case 22:
		return d.one("", "", "hop", " ", "poke 0 0", "cut 0", "cut 2")
	default:
		return d.spoilt(d.line())
	}
}

// spoilt has a byte more, or less, or another one.
func (d *drawer) spoilt(line string) string {
	at := d.below(len(line) + 1)
	odd := d.one(" ", "0", "1", "-", "x", "\t", "\x00", "\xff", " 0", "  ")
	if d.below(2) == 0 || at == len(line) {
		return line[:at] + odd + line[at:]
	}
	if d.below(2) == 0 {
		odd = ""
	}
	return line[:at] + odd + line[at+1:]
}

func (d *drawer) text(many int) string {
	var in strings.Builder
	for range many {
		in.WriteString(d.line() + "\n")
	}
	return in.String()[:max(in.Len()-d.below(2), 0)]
}

// countAnswers tells, of each right line, how often it was answered by what.
func countAnswers(met map[string]int, in, answers string) {
	told := strings.Split(answers, "\n")
	for _, line := range strings.Split(in, "\n") {
		if line == "" || answers == "" {
			continue
		}
		sort := "error"
		if told[0] != "error" {
			sort = "told"
		}
		for _, f := range forms {
			if f.line.MatchString(line) {
				first, _, _ := strings.Cut(line, " ")
				met[first+" "+sort]++
				if first == "check" {
					met[told[0][:2]]++
				}
			}
		}
		told = told[1:]
	}
}

// TestManyTexts is promise 18 at large; and that each line was met that the table
// has, with its answer and with an error.
func TestManyTexts(t *testing.T) {
	d := drawer(18)
	met := make(map[string]int)
	for i := range 2000 {
		in := d.text(i % 40)
		want := wantBench(in)
		if got := impl.Bench(in); got != want {
			t.Fatalf("of\n%s\nit is told\n%s\nwant\n%s", in, got, want)
		}
		countAnswers(met, in, want)
	}
	for _, each := range []string{
		"blank told", "blank error", "write told", "write error", "shot told", "shot error", "poke told", "poke error", "cut told", "cut error", "check told",
		"defects told", "repair told", "read told", "read error", "counts told", "counts error", "table told", "table error", "names told", "yy", "ny", "nn",
	} {
		if met[each] < 50 {
			t.Errorf("%s: it is met too seldom: %v", each, met)
		}
	}
	for _, never := range []string{"check error", "defects error", "repair error", "names error", "yn"} {
		if met[never] != 0 {
			t.Errorf("%s: %v", never, met)
		}
	}
}

// TestManyLongTexts: about as long as they may be.
func TestManyLongTexts(t *testing.T) {
	d := drawer(6000)
	told, refused := 0, 0
	for i := range 60 {
		in := d.text(270 + i)
		if len(in) > 6000 && i%3 > 0 {
			in = in[:5998+d.below(5)]
		}
		want := wantBench(in)
		if got := impl.Bench(in); got != want {
			t.Fatalf("of\n%s\nit is told\n%s\nwant\n%s", in, got, want)
		}
		if want == "" {
			refused++
		} else {
			told++
		}
	}
	if told < 10 || refused < 10 {
		t.Errorf("%d are told, %d are refused", told, refused)
	}
}

// TestBenchOfBrokenImages: what all of the lines tell of an image that is broken,
// and of what becomes of it.
func TestBenchOfBrokenImages(t *testing.T) {
	brokenImages(150, func(b []int64) {
		lines := append(making(b), "check", "defects", "counts", "names", "read 0 1", "read 0 8", "read 1 1", "read 2 0", "read 3 0", "write 1 9 9 9 9 9 9 9 9",
			"repair", "check", "defects", "counts", "names", "read 0 1", "read 0 8", "read 1 1", "write 1 9 9 9 9 9 9 9 9", "shot 5", "read 0 1", "check")
		for at := range 1 + wantMany(b) {
			lines = append(lines, fmt.Sprint("table ", at))
		}
		in := text(lines...)
		if want := wantBench(in); impl.Bench(in) != want || want == "" {
			t.Fatalf("of\n%s\nit is told\n%s\nwant\n%s", in, impl.Bench(in), want)
		}
	})
}

// someTexts are of every sort that is answered, and such as are not.
func someTexts() []string {
	d := drawer(5)
	texts := []string{"", "\n", "check", strings.Repeat("check\n", 300), strings.Repeat("check\n", 301), strings.Repeat("x", 6001), text(rightLines()...), text(making(inOrder())...)}
	for i := range 40 {
		texts = append(texts, d.text(3*i))
	}
	return texts
}

// TestManyBenchesAtATime: all of them answer as one alone does, again and again.
func TestManyBenchesAtATime(t *testing.T) {
	texts := someTexts()
	var want []string
	for _, in := range texts {
		want = append(want, wantBench(in))
	}
	var all sync.WaitGroup
	for from := range 16 {
		all.Go(func() {
			for i := range 2 * len(texts) {
				at := (from*7 + i) % len(texts)
				if got := impl.Bench(texts[at]); got != want[at] {
					t.Errorf("of\n%s\nit is told\n%s\nwant\n%s", texts[at], got, want[at])
				}
			}
		})
	}
	all.Wait()
}

// TestNothingGoesOn: when Bench has answered, no goroutine of it is left. The last
// one may be about to end, so that it is waited for a while.
func TestNothingGoesOn(t *testing.T) {
	before := runtime.NumGoroutine()
	for _, in := range someTexts() {
		impl.Bench(in)
	}
	for range 1000 {
		if runtime.NumGoroutine() <= before {
			return
		}
		time.Sleep(time.Millisecond)
	}
	t.Errorf("%d goroutines, and %d ahead of it", runtime.NumGoroutine(), before)
}

// TestBenchAnswersEverywhere: texts of any bytes.
func TestBenchAnswersEverywhere(t *testing.T) {
	d := drawer(256)
	for i := range 3000 {
		bytes := make([]byte, d.below(60))
		for at := range bytes {
			bytes[at] = byte(d.below(256))
			if i%3 == 0 {
				bytes[at] = " \n0123chektablopw"[d.below(17)]
			}
		}
		in := string(bytes)
		if got, want := impl.Bench(in), wantBench(in); got != want {
			t.Fatalf("of %q it is told %q, want %q", in, got, want)
		}
	}
}
