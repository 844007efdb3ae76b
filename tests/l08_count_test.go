package tests

import (
	"fmt"
	"slices"
	"testing"

	"loop.example/g00821/impl"
)

// checkCounts is given the counts of the first clusters; those of the others,
// up to 64, are 0.
func checkCounts(t *testing.T, what string, b []int64, want ...int64) {
	t.Helper()
	want = append(want, make([]int64, 64-len(want))...)
	if got := impl.CountsIn(b); !same(got, want) {
		t.Errorf("%s: the counts\n%v, want\n%v", what, got, want)
	}
	checkCountedHaveRoles(t, what, b)
}

// checkCountedHaveRoles is promise 8: a cluster has a count just where it has a
// role, one that is not there has none, and all counts are all Good claims.
func checkCountedHaveRoles(t *testing.T, what string, b []int64) {
	t.Helper()
	counts, roles := impl.CountsIn(b), impl.RolesIn(b)
	if len(counts) != 64 {
		t.Fatalf("%s: %d counts", what, len(counts))
	}
	good := int64(len(impl.ClaimsIn(b)) - len(impl.LooseIn(b)))
	for at, count := range counts {
		if has := at < len(roles) && roles[at] != 0; count < 0 || (count > 0) != has {
			t.Fatalf("%s: the count of %d is %d, the roles are %v", what, at, count, roles)
		}
		good -= count
	}
	if good != 0 {
		t.Fatalf("%s: %d more Good claims than the counts %v", what, good, counts)
	}
}

// wantCounts tells them by the other telling of the claims.
func wantCounts(b []int64) []int64 {
	counts := make([]int64, 64)
	for _, c := range wantClaims(b) {
		if c.Good {
			counts[c.Target]++
		}
	}
	return counts
}

func TestCountsOfOrdinaryDisks(t *testing.T) {
	disk := someDisk()
	checkCounts(t, "a disk", disk, 1, 1, 1, 1, 1, 1)
	empty := laid(impl.Head{Size: 8, First: 1, Refs: 2}, nil, []int64{3}, []int64{1, 1, 1, 1})
	checkCounts(t, "an empty disk", empty, 1, 1, 1, 1)
	shot := laid(impl.Head{Size: 20, First: 7, Refs: 6, Shots: 2, Many: 1}, []int64{4}, []int64{99, 1}, []int64{9}, []int64{0, 0, 3}, nil, []int64{5}, []int64{4})
	checkCounts(t, "a disk and a Shot of it, the other way round", shot, 1, 1, 1, 2, 2, 1, 1, 1)
	// What is stored of the counts does not matter to them.
	disk[24], disk[28], disk[31] = 9, 0, 65535
	checkCounts(t, "a disk with wrong counts", disk, 1, 1, 1, 1, 1, 1)
}

func TestCountsOfEachKind(t *testing.T) {
	checkCounts(t, "one of each", oneOfEach(), 1, 1, 1, 1, 1, 1, 1, 1)
	checkCounts(t, "several of some", allKinds(), 1, 1, 1, 1, 1, 1, 1, 2, 1, 2, 4, 2, 1, 1)
	// Each of the kinds leads to the last cluster, in turn.
	for _, w := range whoTells() {
		counts := impl.CountsIn(withWord(oneOfEach(), w.at, 8))
		if len(counts) != 64 || counts[8] != 1 || counts[w.kind-1] != 0 {
			t.Errorf("the kind %d at the last cluster: the counts %v", w.kind, counts)
		}
	}
}

// TestCountsOfOwnEntries: whether it is own is no part of where an entry leads.
func TestCountsOfOwnEntries(t *testing.T) {
	for _, w := range whoTells() {
		if w.isEntry {
			b := withWord(oneOfEach(), w.at, w.kind-1+32768)
			checkCounts(t, fmt.Sprintf("the kind %d, own", w.kind), b, 1, 1, 1, 1, 1, 1, 1, 1)
		}
	}
	b := twoFirsts([]int64{32773}, []int64{5})
	b[40], b[47] = 32776, 8
	checkCounts(t, "own and not own", b, 1, 1, 1, 1, 1, 2, 0, 0, 4)
	own := []int64{32768, 32768, 0, 32768, 32768, 32768, 32768, 32768}
	checkCounts(t, "own entries that lead to none", laid(impl.Head{Size: 64, First: 1, Refs: 2}, own, own), 1, 1, 1)
}

func TestCountsOfSecondTablesThatAreShared(t *testing.T) {
	checkCounts(t, "one of each", twoFirsts([]int64{5}, []int64{0, 6}), 1, 1, 1, 1, 1, 1, 1, 0, 2)
	checkCounts(t, "one of both", twoFirsts([]int64{0, 5}, []int64{0, 5}), 1, 1, 1, 1, 1, 2, 0, 0, 2)
	checkCounts(t, "three of both", twoFirsts([]int64{5, 6, 7}, []int64{5, 6, 7}), 1, 1, 1, 1, 1, 2, 2, 2, 6)
	checkCounts(t, "one of both and one of the Shot alone", twoFirsts([]int64{5}, []int64{5, 6}), 1, 1, 1, 1, 1, 2, 1, 0, 3)
	checkCounts(t, "loose ones between", twoFirsts([]int64{0, 5, 5}, []int64{5, 5, 5}), 1, 1, 1, 1, 1, 2, 0, 0, 2)
	checkCounts(t, "crosswise", twoFirsts([]int64{5, 6}, []int64{6, 5}), 1, 1, 1, 1, 1, 1, 1, 0, 2)
}

// TestCountsOfEveryMany: the disk and the first many of four Shots share the
// second table 8, which leads to 9 from all of its slots, and to 10 from none.
func TestCountsOfEveryMany(t *testing.T) {
	second := []int64{9, 9, 9, 9, 9, 9, 9, 9}
	for many := range int64(5) {
		b := laid(impl.Head{Size: 64, First: 1, Refs: 2, Shots: 3, Many: many},
			[]int64{8}, nil, []int64{91, 4, 92, 5, 93, 6, 94, 7}, []int64{8}, []int64{8}, []int64{8}, []int64{8}, second, nil, nil)
		want := []int64{1, 1, 1, 0, 0, 0, 0, 0, 1 + many, 8 * (1 + many), 0}
		for at := range many {
			want[3], want[4+at] = 1, 1
		}
		checkCounts(t, fmt.Sprint("Many is ", many), b, want...)
	}
}

// TestCountsAtTheirMost: all places of the disk and of four Shots, which share
// all of their second tables, are the cluster 15.
func TestCountsAtTheirMost(t *testing.T) {
	firsts := []int64{7, 8, 9, 10, 11, 12, 13, 14}
	b := laid(impl.Head{Size: 64, First: 1, Refs: 16, Shots: 2, Many: 4}, firsts, []int64{91, 3, 92, 4, 93, 5, 94, 6}, firsts, firsts, firsts, firsts)
	for range 64 {
		b = append(b, 15)
	}
	b = append(b, make([]int64, 16)...)
	checkCounts(t, "64 places of five", b, 1, 1, 1, 1, 1, 1, 1, 5, 5, 5, 5, 5, 5, 5, 5, 320, 1)
}

func TestCountsOfTheDisk(t *testing.T) {
	for size := int64(1); size <= 64; size++ {
		want := make([]int64, 12)
		want[0], want[1], want[11], want[10] = 1, 1, 1, size
		for table := range (size + 7) / 8 {
			want[2+table] = 1
		}
		checkCounts(t, fmt.Sprint("the size ", size), fullDisk(size), want...)
	}
	b := twoFirsts([]int64{5}, nil)
	copy(b[40:], []int64{8, 8, 32776, 7, 6, 5, 4, 9})
	checkCounts(t, "one table", b, 1, 1, 1, 1, 1, 1, 1, 1, 3)
}

// TestCountsOfLooseClaims is of each two kinds of one target: the one behind is
// loose and is not counted, neither there nor where it led before.
func TestCountsOfLooseClaims(t *testing.T) {
	tellers := whoTells()
	for i, ahead := range tellers {
		for _, behind := range tellers[i+1:] {
			target := ahead.kind - 1
			what := fmt.Sprintf("the kinds %d and %d", ahead.kind, behind.kind)
			b := withWord(oneOfEach(), behind.at, target)
			if counts := impl.CountsIn(b); len(counts) != 64 || counts[target] != 1 || counts[behind.kind-1] != 0 {
				t.Errorf("%s: the counts %v", what, counts)
			}
			checkCountedHaveRoles(t, what, b)
		}
	}
	b := laid(impl.Head{Size: 64, First: 1, Refs: 1, Shots: 1, Many: 4}, []int64{1, 1, 0, 1})
	checkCounts(t, "one Good one and many loose ones", b, 1, 1)
	// The first table of the disk can't be that of a Shot, too.
	b = laid(impl.Head{Size: 64, First: 1, Refs: 2, Shots: 3, Many: 3}, []int64{5}, nil, []int64{91, 1, 92, 4, 93, 4}, []int64{5}, nil)
	checkCounts(t, "first tables that are alike", b, 1, 1, 1, 1, 1, 2)
}

// TestClustersThatOnlyLooseClaimsLeadToAreNotCounted: they are there, but are
// past the disk's end.
func TestClustersThatOnlyLooseClaimsLeadToAreNotCounted(t *testing.T) {
	b := laid(impl.Head{Size: 8, First: 1, Refs: 2}, []int64{0, 3, 4}, nil, []int64{5}, nil, nil)
	checkCounts(t, "second tables past the end", b, 1, 1, 1)
	checkCounts(t, "second tables that are not past the end", withWord(b, 2, 17), 1, 1, 1, 1, 1, 1)
	b = laid(impl.Head{Size: 3, First: 1, Refs: 2}, []int64{3}, nil, []int64{0, 0, 5, 4, 0, 4}, nil, nil)
	checkCounts(t, "clusters past the end", b, 1, 1, 1, 1, 0, 1)
	checkCounts(t, "one of two past the end", withWord(b, 2, 4), 1, 1, 1, 1, 1, 1)
	checkCounts(t, "clusters that are not past the end", withWord(b, 2, 6), 1, 1, 1, 1, 2, 1)
	// What stands in a table that is not gone into is counted nowhere.
	b = laid(impl.Head{Size: 8, First: 1, Refs: 1, Shots: 1, Many: 4}, []int64{0, 2}, []int64{3, 4}, nil, nil)
	checkCounts(t, "tables by loose claims", b, 1, 1)
}

// TestCountsOfTargetsThatAreNotThere: nobody leads there by a Good claim, be
// the target below 64 or not.
func TestCountsOfTargetsThatAreNotThere(t *testing.T) {
	for _, w := range whoTells() {
		for _, target := range []int64{9, 10, 62, 63, 64, 65, 72, 255, 32767} {
			what := fmt.Sprintf("the kind %d of %d", w.kind, target)
			b := withWord(oneOfEach(), w.at, target)
			counts := impl.CountsIn(b)
			if len(counts) != 64 || counts[w.kind-1] != 0 || slices.Max(counts[8:]) != 0 {
				t.Errorf("%s: the counts %v", what, counts)
			}
			checkCountedHaveRoles(t, what, b)
		}
	}
	// They are led to as soon as they are there.
	b := laid(impl.Head{Size: 64, First: 1, Refs: 2}, []int64{3}, nil, []int64{20, 20, 63})
	checkCounts(t, "4 clusters", b, 1, 1, 1, 1)
	want := append([]int64{1, 1, 1, 1}, make([]int64, 60)...)
	checkCounts(t, "20 clusters", append(slices.Clone(b), make([]int64, 16*8)...), want...)
	want[20] = 2
	checkCounts(t, "21 clusters", append(slices.Clone(b), make([]int64, 17*8)...), want...)
	checkCounts(t, "63 clusters", append(slices.Clone(b), make([]int64, 59*8)...), want...)
	want[63] = 1
	checkCounts(t, "64 clusters", append(slices.Clone(b), make([]int64, 60*8)...), want...)
}

func TestCountsOfSixtyFourClusters(t *testing.T) {
	b := laid(impl.Head{Size: 64, First: 63, Refs: 62}, make([][]int64, 63)...)
	b[63*8], b[62*8] = 61, 60
	copy(b[61*8:], []int64{59, 64, 59, 0, 1})
	want := make([]int64, 64)
	want[0], want[1], want[59], want[60], want[61], want[62], want[63] = 1, 1, 2, 1, 1, 1, 1
	checkCounts(t, "64 clusters", b, want...)
	want[1], want[59], want[61], want[63] = 0, 0, 0, 0
	checkCounts(t, "63 clusters", b[:504], want...)
	// All of them are led to: 2 to 9 are second tables, and all that are left
	// but Refs are the disk's.
	b = laid(impl.Head{Size: 64, First: 1, Refs: 63}, []int64{2, 3, 4, 5, 6, 7, 8, 9})
	for at := range int64(64) {
		b = append(b, min(10+at, 62))
	}
	b = append(b, make([]int64, 54*8)...)
	all := slices.Repeat([]int64{1}, 64)
	all[62] = 12
	checkCounts(t, "all clusters", b, all...)
}

// TestCountOfTheHead: nobody else can lead to its cluster, since a target of 0
// is none.
func TestCountOfTheHead(t *testing.T) {
	b := laid(impl.Head{Size: 64})
	for n := 3; n <= 8; n++ {
		checkCounts(t, fmt.Sprint("a head of ", n, " words"), b[:n], 1)
	}
	checkCounts(t, "a head that leads to itself", laid(impl.Head{Size: 8, Many: 4}), 1)
	b = laid(impl.Head{Size: 64, First: 1, Refs: 2, Shots: 3, Many: 4}, []int64{0, 32768}, []int64{32768}, nil)
	checkCounts(t, "Shots whose First is 0", b, 1, 1, 1, 1)
	checkCounts(t, "clusters that nobody leads to", laid(impl.Head{Size: 64}, make([][]int64, 63)...), 1)
}

func TestCountsWhereFirstAndRefsAreZero(t *testing.T) {
	b := laid(impl.Head{Size: 64, First: 1, Refs: 2}, []int64{4}, []int64{3}, nil, []int64{5, 5}, nil)
	checkCounts(t, "none", b, 1, 1, 1, 1, 1, 2)
	checkCounts(t, "First", withWord(b, 3, 0), 1, 0, 1, 1)
	checkCounts(t, "Refs", withWord(b, 4, 0), 1, 1, 0, 0, 1, 2)
	checkCounts(t, "both", withWord(withWord(b, 3, 0), 4, 0), 1)
	// A Shot is counted, and what it leads to, though the disk is lost.
	checkCounts(t, "First of a disk with a Shot", withWord(twoFirsts([]int64{5}, []int64{5, 6}), 3, 0), 1, 0, 1, 1, 1, 1, 1, 0, 2)
}

func TestCountsWithoutAHead(t *testing.T) {
	for i, b := range nearlyAllKinds() {
		wantNoHead(t, "headless", b)
		if counts := impl.CountsIn(b); len(counts) != 0 {
			t.Errorf("the list %d: the counts %v", i, counts)
		}
	}
	// 512 words are the most there can be.
	checkCounts(t, "512 words", append(allKinds(), make([]int64, 392)...), 1, 1, 1, 1, 1, 1, 1, 2, 1, 2, 4, 2, 1, 1)
}

// TestCountsOfALastClusterThatLacksWords: one word makes it a cluster, and what
// it lacks leads to nobody, though words stand in the spare room behind.
func TestCountsOfALastClusterThatLacksWords(t *testing.T) {
	whole := laid(impl.Head{Size: 64, First: 1, Refs: 2}, []int64{4}, nil, nil, []int64{9, 32771, 0, 3, 0, 0, 0, 3})
	for n, want := range map[int][]int64{
		32: {1, 1, 1},
		33: {1, 1, 1, 0, 1},
		34: {1, 1, 1, 1, 1},
		35: {1, 1, 1, 1, 1},
		36: {1, 1, 1, 2, 1},
		39: {1, 1, 1, 2, 1},
		40: {1, 1, 1, 3, 1},
	} {
		checkCounts(t, fmt.Sprint(n, " words"), whole[:n], want...)
	}
	checkCounts(t, "a word behind", append(slices.Clone(whole), 1), 1, 1, 1, 3, 1)
	checkCounts(t, "a word behind that is led to", append(withWord(whole, 32, 5), 1), 1, 1, 1, 3, 1, 1)
}

// TestCountsOfBrokenImages is promise 8 at large, and that counts of none, of
// one, of two and of more were met.
func TestCountsOfBrokenImages(t *testing.T) {
	var met [4]int
	brokenImages(20000, func(b []int64) {
		counts := impl.CountsIn(b)
		if want := wantCounts(b); !same(counts, want) {
			t.Fatalf("%v: the counts\n%v, want\n%v", b, counts, want)
		}
		checkCountedHaveRoles(t, fmt.Sprint(b), b)
		for _, count := range counts[:wantMany(b)] {
			met[min(count, 3)]++
		}
	})
	if slices.Min(met[:]) < 1000 {
		t.Errorf("some are met too seldom: %v", met)
	}
}

func TestCountsAnswerEverywhere(t *testing.T) {
	headedImages(func(b []int64) {
		checkCounts(t, fmt.Sprint(len(b), " words"), b, wantCounts(b)...)
	})
}

func TestCountsLeaveTheirArguments(t *testing.T) {
	for _, words := range append(headless(), allKinds(), allKinds()[:117], oneOfEach(), fullDisk(20)) {
		b := guard(words)
		spoil(impl.CountsIn(b.list))
		b.check(t, "counts")
	}
}

// TestCountsAnswerAnew: an answer that somebody wrote over is not given again.
func TestCountsAnswerAnew(t *testing.T) {
	b := allKinds()
	kept := impl.CountsIn(b)
	spoil(impl.CountsIn(b))
	if !same(kept, wantCounts(b)) {
		t.Error("two answers share memory")
	}
	checkCounts(t, "asked again", b, wantCounts(b)...)
}
