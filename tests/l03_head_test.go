package tests

import (
	"math"
	"slices"
	"testing"

	"loop.example/g00821/impl"
)

// wantHeadWords writes a head by the order the document gives.
func wantHeadWords(h impl.Head) []int64 {
	return []int64{20559, 3, h.Size, h.First, h.Refs, h.Shots, h.Many, 0}
}

// rightHeads are of every Size and Many, with words of every sort, no two of
// one head alike but where they are 0.
func rightHeads() []impl.Head {
	words := []int64{0, 1, 63, 64, 20559, 32767, 32768, 65534, 65535}
	var heads []impl.Head
	for size := int64(1); size <= 64; size++ {
		for many := int64(0); many <= 4; many++ {
			for i := range words {
				heads = append(heads, impl.Head{Size: size, First: words[i], Refs: words[(i+1)%9], Shots: words[(i+5)%9], Many: many})
			}
		}
	}
	for _, first := range words {
		for _, refs := range words {
			for _, shots := range words {
				heads = append(heads, impl.Head{Size: 20, First: first, Refs: refs, Shots: shots, Many: 2})
			}
		}
	}
	return heads
}

// wrongHeads differ each in just one field from a head that is right.
func wrongHeads() []impl.Head {
	var heads []impl.Head
	right := impl.Head{Size: 20, First: 1, Refs: 2, Shots: 3, Many: 1}
	add := func(change func(h *impl.Head)) {
		h := right
		change(&h)
		heads = append(heads, h)
	}
	for _, w := range noWords() {
		add(func(h *impl.Head) { h.Size = w })
		add(func(h *impl.Head) { h.First = w })
		add(func(h *impl.Head) { h.Refs = w })
		add(func(h *impl.Head) { h.Shots = w })
		add(func(h *impl.Head) { h.Many = w })
	}
	for _, size := range []int64{0, 65, 66, 128, 512, 65535} {
		add(func(h *impl.Head) { h.Size = size })
	}
	for _, many := range []int64{5, 6, 8, 64, 65535} {
		add(func(h *impl.Head) { h.Many = many })
	}
	return append(heads, impl.Head{}, impl.Head{Size: 65, First: -1, Refs: -1, Shots: -1, Many: 5})
}

func wantNoHead(t *testing.T, what string, b []int64) {
	t.Helper()
	if h, is := impl.HeadIn(b); is || h != (impl.Head{}) {
		t.Errorf("%s: the Head %v, %v, want none", what, h, is)
	}
}

func TestLimitsOfHeads(t *testing.T) {
	if impl.Magic != 20559 || impl.MaxSize != 64 || impl.MaxShots != 4 {
		t.Fatal("the limits are not those of the document")
	}
}

func TestHeadOkAtItsLimits(t *testing.T) {
	for _, c := range []struct {
		h    impl.Head
		want bool
	}{
		{impl.Head{Size: 1}, true},
		{impl.Head{Size: 64}, true},
		{impl.Head{Size: 0}, false},
		{impl.Head{Size: 65}, false},
		{impl.Head{Size: -1}, false},
		{impl.Head{Size: 8, Many: 4}, true},
		{impl.Head{Size: 8, Many: 5}, false},
		{impl.Head{Size: 8, Many: -1}, false},
		{impl.Head{Size: 8, First: 65535}, true},
		{impl.Head{Size: 8, First: 65536}, false},
		{impl.Head{Size: 8, First: -1}, false},
		{impl.Head{Size: 8, Refs: 65535}, true},
		{impl.Head{Size: 8, Refs: 65536}, false},
		{impl.Head{Size: 8, Refs: -1}, false},
		{impl.Head{Size: 8, Shots: 65535}, true},
		{impl.Head{Size: 8, Shots: 65536}, false},
		{impl.Head{Size: 8, Shots: -1}, false},
		{impl.Head{Size: 64, First: 65535, Refs: 65535, Shots: 65535, Many: 4}, true},
		{impl.Head{}, false},
	} {
		if got := impl.HeadOk(c.h); got != c.want {
			t.Errorf("%v: HeadOk %v, want %v", c.h, got, c.want)
		}
	}
}

func TestHeadWords(t *testing.T) {
	h := impl.Head{Size: 20, First: 11, Refs: 12, Shots: 13, Many: 3}
	if got := impl.HeadWords(h); !same(got, []int64{20559, 3, 20, 11, 12, 13, 3, 0}) {
		t.Error(got)
	}
	for _, h := range rightHeads() {
		if got := impl.HeadWords(h); !impl.HeadOk(h) || !same(got, wantHeadWords(h)) {
			t.Fatalf("%v: HeadOk %v, HeadWords %v", h, impl.HeadOk(h), got)
		}
	}
}

// TestWrittenHeadIsRead is promise 3, of images of many ends, the one with no
// cluster too; all but the cluster 0 is as it was.
func TestWrittenHeadIsRead(t *testing.T) {
	for _, n := range []int{0, 1, 2, 7, 8, 9, 16, 17, 48, 504, 511, 512} {
		b := counting(n)
		for _, h := range rightHeads() {
			got := impl.WithHead(b, h)
			if read, is := impl.HeadIn(got); !is || read != h {
				t.Fatalf("%d words, %v is read as %v, %v", n, h, read, is)
			}
			if want := impl.WithCluster(b, 0, wantHeadWords(h)); !same(got, want) {
				t.Fatalf("%d words, %v: %v, want %v", n, h, got, want)
			}
		}
	}
}

func TestWrittenHeadGoesOverAnother(t *testing.T) {
	h, other := impl.Head{Size: 64, First: 1, Refs: 2, Shots: 3, Many: 4}, impl.Head{Size: 1}
	b := impl.WithHead(counting(12), h)
	if want := append(wantHeadWords(h), 9, 10, 11, 12, 0, 0, 0, 0); !same(b, want) {
		t.Fatalf("%v, want %v", b, want)
	}
	b = impl.WithHead(b, other)
	if want := append(wantHeadWords(other), 9, 10, 11, 12, 0, 0, 0, 0); !same(b, want) {
		t.Fatalf("%v, want %v", b, want)
	}
}

func TestWrongHeadsAreNotWritten(t *testing.T) {
	for _, h := range wrongHeads() {
		if impl.HeadOk(h) {
			t.Errorf("%v is right", h)
		}
		if got := impl.HeadWords(h); len(got) != 0 {
			t.Errorf("%v: HeadWords %v", h, got)
		}
		for _, n := range []int{0, 7, 8, 48, 512} {
			if got := impl.WithHead(counting(n), h); len(got) != 0 {
				t.Errorf("%v into %d words: %v", h, n, got)
			}
		}
	}
}

// TestHeadInOfEveryWord changes one word of a head after another: the fixed
// ones must be as they are, of the others just the limits count.
func TestHeadInOfEveryWord(t *testing.T) {
	right := impl.Head{Size: 20, First: 11, Refs: 12, Shots: 13, Many: 3}
	b := append(wantHeadWords(right), counting(5)...)
	low := [8]int64{20559, 3, 1, 0, 0, 0, 0, 0}
	high := [8]int64{20559, 3, 64, 65535, 65535, 65535, 4, 0}
	for at := range 8 {
		for _, w := range []int64{0, 1, 2, 3, 4, 5, 6, 63, 64, 65, 20558, 20559, 20560, 32768, 65534, 65535} {
			changed := withWord(b, at, w)
			want, ok := impl.Head{}, w >= low[at] && w <= high[at]
			if ok {
				want = impl.Head{Size: changed[2], First: changed[3], Refs: changed[4], Shots: changed[5], Many: changed[6]}
			}
			if got, is := impl.HeadIn(changed); is != ok || got != want {
				t.Errorf("the word %d is %d: %v, %v, want %v, %v", at, w, got, is, want, ok)
			}
		}
	}
}

// TestHeadInOfAShortCluster: what the cluster 0 lacks at its end is 0.
func TestHeadInOfAShortCluster(t *testing.T) {
	full := impl.Head{Size: 20, First: 11, Refs: 12, Shots: 13, Many: 3}
	words := wantHeadWords(full)
	for n, want := range map[int]impl.Head{
		7: full,
		6: {Size: 20, First: 11, Refs: 12, Shots: 13},
		5: {Size: 20, First: 11, Refs: 12},
		4: {Size: 20, First: 11},
		3: {Size: 20},
	} {
		if got, is := impl.HeadIn(words[:n]); !is || got != want {
			t.Errorf("%d words: %v, %v, want %v", n, got, is, want)
		}
	}
	for n := range 3 {
		wantNoHead(t, "a head without a Size", words[:n])
	}
	if got := impl.WithHead(words[:3], impl.Head{Size: 1, Many: 4}); !same(got, []int64{20559, 3, 1, 0, 0, 0, 4, 0}) {
		t.Error(got)
	}
}

func TestHeadInOfNoHead(t *testing.T) {
	head := wantHeadWords(impl.Head{Size: 20, First: 1, Refs: 2})
	wantNoHead(t, "nil", nil)
	wantNoHead(t, "no words", []int64{})
	wantNoHead(t, "zeros", make([]int64, 16))
	wantNoHead(t, "other words", counting(16))
	wantNoHead(t, "a head in the cluster 1", append(make([]int64, 8), head...))
	wantNoHead(t, "a head one word too late", append([]int64{0}, head...))
	wantNoHead(t, "a head one word too early", head[1:])
}

func TestHeadsOfNoImage(t *testing.T) {
	h := impl.Head{Size: 20, First: 1, Refs: 2}
	head := wantHeadWords(h)
	bad := [][]int64{
		append(slices.Clone(head), -1),
		append(slices.Clone(head), 65536),
		append(slices.Clone(head), make([]int64, 505)...),
		append(slices.Clone(head), withWord(counting(504), 503, 65536)...),
	}
	for at := range 8 {
		for _, w := range []int64{-1, 65536, math.MinInt64, math.MaxInt64} {
			bad = append(bad, withWord(head, at, w))
		}
	}
	for _, b := range bad {
		wantNoHead(t, "no image", b)
		if got := impl.WithHead(b, h); len(got) != 0 {
			t.Errorf("%d words that are no image: WithHead %v", len(b), got)
		}
	}
	whole := append(slices.Clone(head), make([]int64, 504)...)
	if got, is := impl.HeadIn(whole); !is || got != h {
		t.Errorf("512 words: %v, %v", got, is)
	}
}

func TestHeadsAnswerEverywhere(t *testing.T) {
	heads := append(wrongHeads(), impl.Head{Size: 64, First: 65535, Refs: 65535, Shots: 65535, Many: 4})
	for _, b := range oddImages() {
		wantNoHead(t, "an odd image", b)
		for _, h := range heads {
			can := impl.ImageOk(b) && h.Size == 64
			if got := impl.WithHead(b, h); len(got) != 0 != can || !impl.ImageOk(got) {
				t.Fatalf("%d words, %v: %v", len(b), h, got)
			}
		}
	}
	for _, n := range oddNumbers() {
		for _, h := range []impl.Head{{Size: n}, {Size: 8, First: n}, {Size: 8, Refs: n}, {Size: 8, Shots: n}, {Size: 8, Many: n}} {
			if ok := impl.HeadOk(h); len(impl.HeadWords(h)) != 0 != ok || len(impl.WithHead(nil, h)) != 0 != ok {
				t.Errorf("%v: HeadOk %v, HeadWords %v", h, ok, impl.HeadWords(h))
			}
		}
	}
}

func TestHeadsLeaveTheirArguments(t *testing.T) {
	h := impl.Head{Size: 20, First: 1, Refs: 2, Shots: 3, Many: 4}
	for _, words := range append(oddImages(), wantHeadWords(h), wantHeadWords(h)[:7]) {
		b := guard(words)
		impl.HeadIn(b.list)
		answer := impl.WithHead(b.list, h)
		b.check(t, "heads")
		spoil(answer)
		b.check(t, "heads, the answer written over")
	}
}

// TestHeadsAnswerAnew: an answer that somebody wrote over is not given again.
func TestHeadsAnswerAnew(t *testing.T) {
	h := impl.Head{Size: 20, First: 1, Refs: 2, Shots: 3, Many: 4}
	kept := impl.WithHead(counting(9), h)
	spoil(impl.HeadWords(h))
	spoil(impl.WithHead(counting(9), h))
	if got := impl.HeadWords(h); !same(got, wantHeadWords(h)) {
		t.Error(got)
	}
	if want := append(wantHeadWords(h), 9, 0, 0, 0, 0, 0, 0, 0); !same(kept, want) || !same(impl.WithHead(counting(9), h), want) {
		t.Error("two answers share memory")
	}
}
