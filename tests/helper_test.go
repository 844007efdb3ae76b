package tests

import (
	"math"
	"slices"
	"testing"
)

// same takes nil and an empty list as one value, as the document does.
func same(a, b []int64) bool {
	return slices.Equal(a, b)
}

// counting gives n words that differ from each other and are never 0, so that
// a word that was moved or lost shows.
func counting(n int) []int64 {
	words := make([]int64, n)
	for i := range words {
		words[i] = int64(i) + 1
	}
	return words
}

// guarded is a list with marked room before and behind it: whoever writes into
// the list, or into its spare room, is found out.
type guarded struct {
	room []int64
	was  []int64
	list []int64
}

const guardRoom = 24

func guard(words []int64) *guarded {
	room := make([]int64, 0, len(words)+2*guardRoom)
	for range guardRoom {
		room = append(room, -7)
	}
	room = append(room, words...)
	for range guardRoom {
		room = append(room, -7)
	}
	return &guarded{room: room, was: slices.Clone(room), list: room[guardRoom : guardRoom+len(words)]}
}

func (g *guarded) check(t *testing.T, what string) {
	t.Helper()
	if !same(g.room, g.was) {
		t.Fatalf("%s: an argument, or the room around it, was written into", what)
	}
}

// spoil writes over an answer and all of its spare room; an argument that
// shares memory with it is changed by that.
func spoil(answer []int64) {
	answer = answer[:cap(answer)]
	for i := range answer {
		answer[i] = -99
	}
}

// oddNumbers are arguments that are out of range nearly everywhere, and the
// numbers next to the limits.
func oddNumbers() []int64 {
	return []int64{math.MinInt64, math.MinInt64 + 1, -65536, -8, -2, -1, 0, 1, 2, 7, 8, 9, 62, 63, 64, 65, 511, 512, 513, 65535, 65536, math.MaxInt64 - 7, math.MaxInt64}
}

// oddImages are lists of words of every sort: right ones of every end, and
// ones that are no image.
func oddImages() [][]int64 {
	images := [][]int64{nil, {}, {0}, {65535}, {65536}, {-1}, {math.MinInt64}, {math.MaxInt64}}
	for _, n := range []int{1, 7, 8, 9, 15, 16, 17, 504, 505, 511, 512, 513, 520, 2000} {
		images = append(images, counting(n), make([]int64, n), withWord(counting(n), n-1, 65536), withWord(counting(n), 0, -1))
	}
	return images
}

func withWord(words []int64, at int, w int64) []int64 {
	changed := slices.Clone(words)
	changed[at] = w
	return changed
}
