package tests

import (
	"fmt"
	"math"
	"slices"
	"testing"

	"loop.example/g00821/impl"
)

// wantCluster reads a cluster straight from the words: what is not there is 0.
func wantCluster(b []int64, at int) []int64 {
	words := make([]int64, 8)
	for i := range words {
		if at*8+i < len(b) {
			words[i] = b[at*8+i]
		}
	}
	return words
}

func wantMany(b []int64) int {
	return (len(b) + 7) / 8
}

var newWords = []int64{65535, 40001, 0, 40003, 40004, 0, 40006, 40007}

func TestLimitsOfWords(t *testing.T) {
	if impl.MaxWords != 512 || impl.MaxWord != 65535 || impl.Width != 8 {
		t.Fatal("the limits are not those of the document")
	}
}

func TestImageOk(t *testing.T) {
	cases := []struct {
		name string
		b    []int64
		want bool
	}{
		{"nil", nil, true},
		{"empty", []int64{}, true},
		{"one word", []int64{5}, true},
		{"a last cluster that lacks words", counting(10), true},
		{"511 words", counting(511), true},
		{"512 words", counting(512), true},
		{"513 words", counting(513), false},
		{"513 zeros", make([]int64, 513), false},
		{"many too many", make([]int64, 5000), false},
		{"the word 0", []int64{0}, true},
		{"the word 65535", []int64{65535}, true},
		{"the word 65536", []int64{65536}, false},
		{"the word -1", []int64{-1}, false},
		{"the least number", []int64{math.MinInt64}, false},
		{"the greatest number", []int64{math.MaxInt64}, false},
		{"2 to the 32nd", []int64{1 << 32}, false},
		{"512 words, the last one 65535", withWord(counting(512), 511, 65535), true},
		{"512 words, the last one 65536", withWord(counting(512), 511, 65536), false},
		{"512 words, the first one -1", withWord(counting(512), 0, -1), false},
		{"a wrong word in the midst", withWord(counting(20), 9, -1), false},
	}
	for _, c := range cases {
		if got := impl.ImageOk(c.b); got != c.want {
			t.Errorf("%s: ImageOk %v, want %v", c.name, got, c.want)
		}
	}
}

func TestClustersIn(t *testing.T) {
	for n, want := range map[int]int64{0: 0, 1: 1, 7: 1, 8: 1, 9: 2, 15: 2, 16: 2, 17: 3, 504: 63, 505: 64, 511: 64, 512: 64, 513: -1, 520: -1} {
		if got := impl.ClustersIn(counting(n)); got != want {
			t.Errorf("%d words: ClustersIn %d, want %d", n, got, want)
		}
	}
	for _, bad := range [][]int64{{-1}, {65536}, withWord(counting(30), 29, 65536)} {
		if got := impl.ClustersIn(bad); got != -1 {
			t.Errorf("%v: ClustersIn %d, want -1", bad, got)
		}
	}
	if impl.ClustersIn(nil) != 0 || impl.ClustersIn([]int64{}) != 0 {
		t.Error("the empty image has a cluster")
	}
}

func TestClusterAtEveryLength(t *testing.T) {
	for n := 0; n <= 512; n++ {
		b := counting(n)
		many := wantMany(b)
		for at := range many {
			if got := impl.ClusterAt(b, int64(at)); !same(got, wantCluster(b, at)) {
				t.Fatalf("%d words: ClusterAt %d is %v", n, at, got)
			}
		}
		for _, at := range []int64{math.MinInt64, -8, -1, int64(many), int64(many) + 1, math.MaxInt64} {
			if got := impl.ClusterAt(b, at); len(got) != 0 {
				t.Fatalf("%d words: ClusterAt %d is %v, want nothing", n, at, got)
			}
		}
	}
}

func TestClusterAtOfNoImage(t *testing.T) {
	for _, bad := range [][]int64{{-1}, {65536}, make([]int64, 513), withWord(counting(16), 15, 65536), withWord(counting(16), 8, -1)} {
		for _, at := range []int64{-1, 0, 1} {
			if got := impl.ClusterAt(bad, at); len(got) != 0 {
				t.Errorf("%d words that are no image: ClusterAt %d is %v", len(bad), at, got)
			}
		}
	}
}

// TestWrittenClusterIsRead is promise 1, of images of many ends and of every
// place in them, the one behind them too.
func TestWrittenClusterIsRead(t *testing.T) {
	for _, n := range []int{0, 1, 2, 6, 7, 8, 9, 10, 15, 16, 17, 63, 64, 65, 250, 497, 503, 504, 505, 511, 512} {
		b := counting(n)
		many := wantMany(b)
		for at := 0; at <= min(many, 63); at++ {
			checkWritten(t, b, at, impl.WithCluster(b, int64(at), newWords))
		}
	}
}

func checkWritten(t *testing.T, b []int64, at int, got []int64) {
	t.Helper()
	many := max(wantMany(b), at+1)
	if len(got) != many*8 {
		t.Fatalf("%d words, at %d: %d words, want %d", len(b), at, len(got), many*8)
	}
	for c := range many {
		want := wantCluster(b, c)
		if c == at {
			want = newWords
		}
		if read := impl.ClusterAt(got, int64(c)); !same(read, want) {
			t.Fatalf("%d words, at %d: the cluster %d is read as %v, want %v", len(b), at, c, read, want)
		}
	}
}

func TestLackingWordsAreZero(t *testing.T) {
	b := []int64{1, 2, 3, 4, 5, 6, 7, 8, 9, 10}
	if got := impl.ClusterAt(b, 1); !same(got, []int64{9, 10, 0, 0, 0, 0, 0, 0}) {
		t.Error(got)
	}
	want := append(slices.Clone(newWords), 9, 10, 0, 0, 0, 0, 0, 0)
	if got := impl.WithCluster(b, 0, newWords); !same(got, want) {
		t.Error(got)
	}
	want = append([]int64{1, 2, 3, 4, 5, 6, 7, 8}, newWords...)
	if got := impl.WithCluster(b, 1, newWords); !same(got, want) {
		t.Error(got)
	}
	want = append([]int64{1, 2, 3, 4, 5, 6, 7, 8, 9, 10, 0, 0, 0, 0, 0, 0}, newWords...)
	if got := impl.WithCluster(b, 2, newWords); !same(got, want) {
		t.Error(got)
	}
}

// TestLackingWordsAreNotSpareRoom: what stands behind a list is not part of it.
func TestLackingWordsAreNotSpareRoom(t *testing.T) {
	b := counting(16)[:10]
	if got := impl.ClusterAt(b, 1); !same(got, []int64{9, 10, 0, 0, 0, 0, 0, 0}) {
		t.Error(got)
	}
	if got := impl.WithCluster(b, 2, newWords); !same(got[8:16], []int64{9, 10, 0, 0, 0, 0, 0, 0}) {
		t.Error(got)
	}
}

func TestWithClusterOfTheEmptyImage(t *testing.T) {
	for _, b := range [][]int64{nil, {}} {
		if got := impl.WithCluster(b, 0, newWords); !same(got, newWords) {
			t.Errorf("at 0: %v", got)
		}
		if got := impl.WithCluster(b, 1, newWords); len(got) != 0 {
			t.Errorf("at 1: %v", got)
		}
		if got := impl.ClusterAt(b, 0); len(got) != 0 {
			t.Errorf("ClusterAt 0: %v", got)
		}
	}
}

func TestWithClusterAtTheLimit(t *testing.T) {
	for _, c := range []struct {
		words int
		at    int64
		want  int
	}{
		{496, 62, 504}, {496, 63, 0}, {497, 63, 512}, {504, 62, 504}, {504, 63, 512}, {504, 64, 0},
		{505, 63, 512}, {505, 64, 0}, {511, 63, 512}, {511, 64, 0},
		{512, 63, 512}, {512, 64, 0}, {512, 65, 0},
	} {
		if got := impl.WithCluster(counting(c.words), c.at, newWords); len(got) != c.want {
			t.Errorf("%d words, at %d: %d words, want %d", c.words, c.at, len(got), c.want)
		}
	}
}

func TestWithClusterAtNoPlace(t *testing.T) {
	for _, n := range []int{0, 1, 8, 9, 16, 512} {
		many := int64(wantMany(counting(n)))
		for _, at := range []int64{math.MinInt64, -8, -1, many + 1, many + 8, 1 << 40, math.MaxInt64} {
			if got := impl.WithCluster(counting(n), at, newWords); len(got) != 0 {
				t.Errorf("%d words, at %d: %v, want nothing", n, at, got)
			}
		}
	}
}

func TestWithClusterOfWrongWords(t *testing.T) {
	wrong := [][]int64{nil, {}, {1}, counting(7), counting(9), counting(16)}
	for i := range 8 {
		for _, w := range []int64{-1, 65536, math.MinInt64, math.MaxInt64} {
			wrong = append(wrong, withWord(newWords, i, w))
		}
	}
	for _, words := range wrong {
		for at := range int64(3) {
			if got := impl.WithCluster(counting(10), at, words); len(got) != 0 {
				t.Errorf("%v at %d: %v, want nothing", words, at, got)
			}
		}
	}
	for i := range 8 {
		for _, w := range []int64{0, 65535} {
			words := withWord(newWords, i, w)
			if got := impl.ClusterAt(impl.WithCluster(counting(10), 1, words), 1); !same(got, words) {
				t.Errorf("%v is read as %v", words, got)
			}
		}
	}
}

func TestWithClusterOfNoImage(t *testing.T) {
	for _, bad := range [][]int64{{-1}, {65536}, make([]int64, 513), withWord(counting(16), 15, 65536)} {
		for _, at := range []int64{0, 1, 2} {
			if got := impl.WithCluster(bad, at, newWords); len(got) != 0 {
				t.Errorf("%d words that are no image, at %d: %v", len(bad), at, got)
			}
		}
	}
	// Not even where the wrong word would be written over.
	if got := impl.WithCluster([]int64{65536}, 0, newWords); len(got) != 0 {
		t.Error(got)
	}
}

func TestWordsAnswerEverywhere(t *testing.T) {
	lists := [][]int64{nil, counting(7), counting(8), counting(9), withWord(counting(8), 7, 65536)}
	for _, b := range oddImages() {
		right := impl.ImageOk(b)
		if (impl.ClustersIn(b) >= 0) != right {
			t.Fatalf("%d words: ImageOk and ClustersIn differ", len(b))
		}
		for _, at := range oddNumbers() {
			there := right && at >= 0 && at < int64(wantMany(b))
			if got := impl.ClusterAt(b, at); len(got) != 0 != there {
				t.Fatalf("%d words: ClusterAt %d is %v", len(b), at, got)
			}
			for _, words := range lists {
				got := impl.WithCluster(b, at, words)
				can := right && at >= 0 && at <= int64(wantMany(b)) && at < 64 && len(words) == 8 && words[7] == 8
				if len(got) != 0 != can || !impl.ImageOk(got) {
					t.Fatalf("%d words, at %d, %v: %v", len(b), at, words, got)
				}
			}
		}
	}
}

func TestWordsLeaveTheirArguments(t *testing.T) {
	for _, n := range []int{0, 1, 7, 8, 9, 16, 511, 512, 513} {
		for at := int64(-1); at <= 65; at++ {
			what := fmt.Sprintf("%d words, at %d", n, at)
			b, words := guard(counting(n)), guard(newWords)
			impl.ImageOk(b.list)
			impl.ClustersIn(b.list)
			first := impl.ClusterAt(b.list, at)
			second := impl.WithCluster(b.list, at, words.list)
			b.check(t, what)
			words.check(t, what)
			spoil(first)
			b.check(t, what+", its ClusterAt written over")
			spoil(second)
			b.check(t, what+", its WithCluster written over")
			words.check(t, what+", its WithCluster written over")
		}
	}
}

// TestWordsAnswerAnew: an answer that somebody wrote over is not given again.
func TestWordsAnswerAnew(t *testing.T) {
	b := counting(20)
	spoil(impl.ClusterAt(b, 2))
	if got := impl.ClusterAt(b, 2); !same(got, []int64{17, 18, 19, 20, 0, 0, 0, 0}) {
		t.Error(got)
	}
	want := impl.WithCluster(b, 3, newWords)
	kept := slices.Clone(want)
	spoil(impl.WithCluster(b, 3, newWords))
	if !same(want, kept) || !same(impl.WithCluster(b, 3, newWords), kept) {
		t.Error("two answers share memory")
	}
}
