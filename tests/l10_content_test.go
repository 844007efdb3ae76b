package tests

import (
	"fmt"
	"math"
	"slices"
	"testing"

	"loop.example/g00821/impl"
)

func checkContent(t *testing.T, what string, b []int64, which, g int64, want ...int64) {
	t.Helper()
	if got := impl.ContentOf(b, which, g); !same(got, want) {
		t.Errorf("%s: ContentOf %d, %d is %v, want %v", what, which, g, got, want)
	}
}

// checkZeros tells eight zeros from nothing at all.
func checkZeros(t *testing.T, what string, b []int64, which, g int64) {
	t.Helper()
	checkContent(t, what, b, which, g, 0, 0, 0, 0, 0, 0, 0, 0)
}

func checkNames(t *testing.T, what string, b []int64, want ...int64) {
	t.Helper()
	if got := impl.NamesIn(b); !same(got, want) {
		t.Errorf("%s: the names are %v, want %v", what, got, want)
	}
}

// wantNames and wantContent read straight in the list, so that no layer of the
// program is asked.
func wantNames(b []int64) []int64 {
	head := wantCluster(b, 0)
	if head[5] < 1 || head[5] >= int64(wantMany(b)) {
		return nil
	}
	var names []int64
	for i, w := range wantCluster(b, int(head[5]))[:2*head[6]] {
		if i%2 == 0 {
			names = append(names, w)
		}
	}
	return names
}

func wantContent(b []int64, which, g int64) []int64 {
	if g < 0 || g >= wantCluster(b, 0)[2] || which < 0 || which > int64(len(wantNames(b))) {
		return nil
	}
	target := wantEntry(b, which, g) & 32767
	if target < 1 || target >= int64(wantMany(b)) {
		return make([]int64, 8)
	}
	return wantCluster(b, int(target))
}

// sharing is a disk of 20 in the clusters 1, 5, 6 and 8 to 10, and four Shots:
// an older first table, the disk's own one, one that is not there, and one of
// zeros.
func sharing() []int64 {
	return laid(impl.Head{Size: 20, First: 1, Refs: 2, Shots: 3, Many: 4},
		[]int64{32773, 0, 6},                        // 1: the first table
		nil,                                         // 2: Refs
		[]int64{70, 4, 7, 1, 7, 12, 65535, 11},      // 3: Shots
		[]int64{7, 0, 32774},                        // 4: the first table of a Shot
		[]int64{8, 32777, 0, 0, 0, 0, 0, 10},        // 5: a second table of the disk
		[]int64{0, 10, 0, 9, 9, 9, 9, 9},            // 6: one that both have
		[]int64{9, 10, 0, 0, 0, 0, 0, 32776},        // 7: one of the Shot
		[]int64{81, 82, 83, 84, 85, 86, 87, 88},     // 8
		[]int64{91, 92, 93, 94, 95, 96, 97, 98},     // 9
		[]int64{0, 65535, 32768, 32769, 1, 0, 8, 0}, // 10
		nil, // 11: the first table of another Shot
	)
}

// TestContentsAreEightWords is promise 10, with what is read written out.
func TestContentsAreEightWords(t *testing.T) {
	b := sharing()
	eighty, ninety, odd := b[64:72], b[72:80], b[80:88]
	disk := map[int64][]int64{0: eighty, 1: ninety, 7: odd, 17: odd, 19: ninety}
	shot := map[int64][]int64{0: ninety, 1: odd, 7: eighty, 17: odd, 19: ninety}
	for which, written := range []map[int64][]int64{disk, shot, disk, nil, nil} {
		for g := range int64(20) {
			want := written[g]
			if want == nil {
				want = make([]int64, 8)
			}
			checkContent(t, "shared", b, int64(which), g, want...)
		}
	}
}

// TestContentsOfEverySize: eight words of each cluster of the disk and of each
// Shot, and nothing of all others.
func TestContentsOfEverySize(t *testing.T) {
	for size := int64(1); size <= 64; size++ {
		for many := int64(0); many <= 4; many++ {
			for what, b := range map[string][]int64{"disked": disked(size, many), "led on": ledOn(size, many)} {
				for which := int64(-2); which <= 6; which++ {
					for g := int64(-9); g <= 73; g++ {
						got := impl.ContentOf(b, which, g)
						is := which >= 0 && which <= many && g >= 0 && g < size
						if is != (len(got) == 8) || !is && len(got) != 0 {
							t.Fatalf("%s, of %d and %d Shots: ContentOf %d, %d is %v", what, size, many, which, g, got)
						}
						checkContent(t, what, b, which, g, wantContent(b, which, g)...)
					}
				}
			}
		}
	}
}

// ledOn is disked with entries that lead to clusters of it, or just past them.
func ledOn(size, many int64) []int64 {
	b := disked(size, many)
	for at := 40; at < len(b); at++ {
		b[at] = int64(at%11) + 32768*int64(at/11%2)
	}
	return b
}

func TestContentsOfNoSuchWhich(t *testing.T) {
	// The first tables of all four Shots are there, whether they count or not.
	for many := int64(0); many <= 4; many++ {
		b := withWord(withWord(withWord(sharing(), 29, 1), 31, 1), 6, many)
		for which := int64(0); which <= many; which++ {
			checkContent(t, fmt.Sprint(many, " Shots"), b, which, 17, b[80:88]...)
		}
		for _, which := range []int64{math.MinInt64, -65536, -32767, -5, -4, -1, many + 1, many + 2, 5, 6, 8, 64, 32768, 32769, 65535, 1 << 32, math.MaxInt64} {
			checkContent(t, fmt.Sprint(many, " Shots"), b, which, 17)
		}
	}
}

func TestContentsOfNoSuchCluster(t *testing.T) {
	for _, size := range []int64{1, 2, 7, 8, 9, 16, 20, 63, 64} {
		b := fullDisk(size)
		copy(b[80:], []int64{1, 2, 3, 4, 5, 6, 7, 8})
		what := fmt.Sprint("a disk of ", size)
		for g := range size {
			checkContent(t, what, b, 0, g, 1, 2, 3, 4, 5, 6, 7, 8)
		}
		for _, g := range []int64{math.MinInt64, -65536, -64, -9, -8, -7, -1, size, size + 1, size + 8, 64, 65, 512, 65536, math.MaxInt64} {
			checkContent(t, what, b, 0, g)
		}
	}
	// Every one of them has the same size.
	b := sharing()
	for which := range int64(5) {
		checkContent(t, "at the size", b, which, 20)
		checkContent(t, "below 0", b, which, -1)
	}
}

func TestContentsOfNoTarget(t *testing.T) {
	for _, w := range []int64{0, 32768} {
		what := fmt.Sprint("the entry ", w)
		b := withWord(someDisk(), 34, w)
		checkZeros(t, what, b, 0, 2)
		b = withWord(someDisk(), 8, w)
		for g := range int64(20) {
			checkZeros(t, what+" of the first table", b, 0, g)
		}
	}
	for _, g := range []int64{0, 1, 3, 7, 8, 18, 19} {
		checkZeros(t, "never written", someDisk(), 0, g)
	}
}

// TestContentsWithoutTheirTables: what can't be found is read as zeros, and
// not told to be nothing.
func TestContentsWithoutTheirTables(t *testing.T) {
	for _, target := range []int64{0, 6, 7, 8, 63, 64, 32767, 32768, 32769, 65535} {
		b := withWord(someDisk(), 3, target)
		for g := range int64(20) {
			checkZeros(t, fmt.Sprint("First is ", target), b, 0, g)
		}
		checkContent(t, fmt.Sprint("First is ", target), b, 0, 20)
		checkContent(t, fmt.Sprint("First is ", target), b, 1, 2)
	}
	for _, target := range []int64{6, 7, 8, 63, 64, 512, 32767} {
		for _, own := range []int64{0, 32768} {
			b := withWord(someDisk(), 8, target+own)
			for g := range int64(20) {
				checkZeros(t, fmt.Sprint("the second table is ", target+own), b, 0, g)
			}
		}
	}
	for _, first := range []int64{0, 12, 32769, 65535} {
		b := withWord(sharing(), 25, first)
		checkZeros(t, fmt.Sprint("a Shot's First is ", first), b, 1, 0)
		checkContent(t, fmt.Sprint("a Shot's First is ", first), b, 0, 0, b[64:72]...)
		checkContent(t, fmt.Sprint("a Shot's First is ", first), b, 2, 0, b[64:72]...)
		b = withWord(sharing(), 3, first)
		checkZeros(t, fmt.Sprint("First is ", first), b, 0, 0)
		checkContent(t, fmt.Sprint("First is ", first), b, 1, 0, b[72:80]...)
	}
}

func TestContentsThatAreNotThere(t *testing.T) {
	for _, target := range []int64{6, 7, 8, 63, 64, 65, 512, 20559, 32767} {
		for _, own := range []int64{0, 32768} {
			checkZeros(t, fmt.Sprint("the entry ", target+own), withWord(someDisk(), 34, target+own), 0, 2)
		}
	}
	// It is read as soon as it is there.
	b := withWord(someDisk(), 34, 63)
	checkZeros(t, "63 clusters", append(slices.Clone(b), slices.Repeat([]int64{5}, 57*8)...), 0, 2)
	checkContent(t, "64 clusters", append(slices.Clone(b), slices.Repeat([]int64{5}, 58*8)...), 0, 2, 5, 5, 5, 5, 5, 5, 5, 5)
}

// TestContentsWhateverTheyAre: a cluster that is something else as well, or
// that a loose claim leads to, is read as it stands.
func TestContentsWhateverTheyAre(t *testing.T) {
	for target := int64(1); target <= 14; target++ {
		for _, own := range []int64{0, 32768} {
			// The places 0 and 7 of the disk and of the first Shot.
			b := withWord(withWord(allKinds(), 56, target+own), 63, target+own)
			for _, which := range []int64{0, 1} {
				for _, g := range []int64{0, 7} {
					what := fmt.Sprintf("the cluster %d, own %d", target, own)
					checkContent(t, what, b, which, g, b[8*target:8*target+8]...)
				}
			}
		}
	}
	checkZeros(t, "the head", withWord(someDisk(), 34, 32768), 0, 2)
}

// TestContentsByTablesOfAnySort: a table on the way down may be another thing,
// too; no claim is asked for.
func TestContentsByTablesOfAnySort(t *testing.T) {
	b := laid(impl.Head{Size: 64, First: 1, Refs: 1}, []int64{1, 32769, 2, 3}, []int64{0, 4}, []int64{3}, []int64{5, 6, 7})
	for g, at := range map[int64]int64{0: 1, 1: 1, 2: 2, 3: 3, 8: 1, 9: 1, 10: 2, 11: 3, 17: 4, 24: 3} {
		checkContent(t, "by itself", b, 0, g, b[8*at:8*at+8]...)
	}
	checkZeros(t, "by itself", b, 0, 4)
	checkZeros(t, "by itself", b, 0, 16)
	checkZeros(t, "by itself", b, 0, 25)
	// Two slots of one first table lead to one second table: the other claim is
	// loose, and what it leads to is read.
	twice := twoFirsts([]int64{5, 5}, []int64{0, 5})
	copy(twice[64:], []int64{1, 2, 3, 4, 5, 6, 7, 8})
	for _, c := range [][2]int64{{0, 0}, {0, 8}, {1, 8}} {
		checkContent(t, "led to twice", twice, c[0], c[1], 1, 2, 3, 4, 5, 6, 7, 8)
	}
	checkZeros(t, "led to twice", twice, 1, 0)
	// Shots and Refs are a first table, as well.
	shots := laid(impl.Head{Size: 64, First: 1, Refs: 1, Shots: 1, Many: 2}, []int64{2, 2, 9, 1}, []int64{0, 0, 3}, []int64{6, 6, 6})
	checkContent(t, "Shots are First", shots, 0, 2, 6, 6, 6, 0, 0, 0, 0, 0)
	checkContent(t, "Shots are First", shots, 0, 10, 6, 6, 6, 0, 0, 0, 0, 0)
	checkContent(t, "a Shot's First are Shots", shots, 2, 2, 6, 6, 6, 0, 0, 0, 0, 0)
	checkContent(t, "a Shot's First is a second table", shots, 1, 16, 0, 0, 0, 0, 0, 0, 0, 0)
}

func TestContentsByOwnEntries(t *testing.T) {
	for _, first := range []int64{4, 32772} {
		for _, second := range []int64{5, 32773} {
			b := withWord(withWord(someDisk(), 8, first), 34, second)
			checkContent(t, fmt.Sprint(first, second), b, 0, 2, 7, 7, 7, 7, 7, 7, 7, 9)
		}
	}
	// A First is no entry.
	checkZeros(t, "an own First", withWord(someDisk(), 3, 32769), 0, 2)
	checkZeros(t, "an own First of a Shot", withWord(sharing(), 25, 32772), 1, 0)
}

// TestContentsInALastClusterThatLacksWords: one word makes it a cluster, and
// what it lacks is 0, though words stand in the spare room behind.
func TestContentsInALastClusterThatLacksWords(t *testing.T) {
	whole := someDisk()
	checkZeros(t, "no word", whole[:40], 0, 2)
	for n := 1; n <= 8; n++ {
		want := append(slices.Clone(whole[40:40+n]), make([]int64, 8-n)...)
		checkContent(t, fmt.Sprint(n, " words"), whole[:40+n], 0, 2, want...)
	}
	// A last cluster that is the second table has the entries it has words of.
	whole = laid(impl.Head{Size: 8, First: 1}, []int64{3}, []int64{4, 5, 6}, []int64{2, 2, 2, 2, 2, 2, 2, 2})
	for n := 1; n <= 8; n++ {
		for g := range int64(8) {
			want := make([]int64, 8)
			if g < int64(n) {
				copy(want, []int64{4, 5, 6})
			}
			checkContent(t, fmt.Sprint(n, " words of a second table"), whole[:24+n], 0, g, want...)
		}
	}
	// So has one that is the table of the Shots.
	whole = laid(impl.Head{Size: 8, First: 1, Shots: 2, Many: 4}, []int64{1}, []int64{11, 1, 12, 1, 13, 1, 14, 1})
	for n := 1; n <= 8; n++ {
		names := make([]int64, 4)
		for i := range names {
			if 2*i < n {
				names[i] = int64(11 + i)
			}
			want := make([]int64, 8)
			if 2*i+1 < n {
				want[0] = 1
			}
			checkContent(t, fmt.Sprint(n, " words of Shots"), whole[:16+n], int64(i)+1, 0, want...)
		}
		checkNames(t, fmt.Sprint(n, " words of Shots"), whole[:16+n], names...)
	}
	checkNames(t, "no word of Shots", whole[:16])
	checkContent(t, "no word of Shots", whole[:16], 1, 0)
	checkContent(t, "no word of Shots", whole[:16], 0, 0, 1, 0, 0, 0, 0, 0, 0, 0)
}

func TestContentsOfAHeadAlone(t *testing.T) {
	for n := 3; n <= 8; n++ {
		b := laid(impl.Head{Size: 64, First: 1, Refs: 1, Shots: 1, Many: 4})[:n]
		checkZeros(t, "a head alone", b, 0, 0)
		checkZeros(t, "a head alone", b, 0, 63)
		checkContent(t, "a head alone", b, 0, 64)
		checkContent(t, "a head alone", b, 1, 0)
		checkNames(t, "a head alone", b)
	}
}

func TestNamesInOrder(t *testing.T) {
	for many, want := range [][]int64{nil, {101}, {101, 0}, {101, 0, 65535}, {101, 0, 65535, 103}} {
		for at := int64(1); at <= 5; at++ {
			checkNames(t, fmt.Sprintf("%d in the cluster %d", many, at), pictured(at, int64(many)), want...)
		}
	}
	checkNames(t, "names that are alike", sharing(), 70, 7, 7, 65535)
	checkNames(t, "names that fall", withWord(withWord(sharing(), 26, 70), 28, 3), 70, 70, 3, 65535)
	checkNames(t, "no Shots", someDisk())
	checkNames(t, "their first tables are not there", laid(impl.Head{Size: 1, Shots: 1, Many: 2}, []int64{5, 9, 4, 65535}), 5, 4)
}

// TestNamesThatAreLost: with the table of the Shots these are gone, and no
// which is one of them.
func TestNamesThatAreLost(t *testing.T) {
	for _, shots := range []int64{0, 12, 13, 64, 32767, 32768, 32771, 65535} {
		b := withWord(sharing(), 5, shots)
		what := fmt.Sprint("Shots is ", shots)
		checkNames(t, what, b)
		for which := int64(1); which <= 5; which++ {
			checkContent(t, what, b, which, 0)
		}
		checkContent(t, what, b, 0, 0, b[64:72]...)
	}
	// A table that is something else has its names all the same.
	b := withWord(sharing(), 5, 8)
	checkNames(t, "Shots is a cluster of the disk", b, 81, 83, 85, 87)
	checkZeros(t, "Shots is a cluster of the disk", b, 4, 0)
}

func TestContentsWithoutAHead(t *testing.T) {
	lists := append(nearlyAllKinds(), headless()...)
	for _, w := range [][2]int64{{0, 0}, {1, 4}, {2, 0}, {2, 65}, {6, 5}, {7, 1}, {40, -1}, {47, 65536}} {
		lists = append(lists, withWord(someDisk(), int(w[0]), w[1]))
	}
	for i, b := range lists {
		wantNoHead(t, "headless", b)
		what := fmt.Sprint("the list ", i)
		checkNames(t, what, b)
		for which := int64(-1); which <= 5; which++ {
			for _, g := range append(oddNumbers(), 3, 19) {
				checkContent(t, what, b, which, g)
			}
		}
	}
	// 512 words are an image, and 513 are none.
	b := append(someDisk(), make([]int64, 464)...)
	checkContent(t, "512 words", b, 0, 2, 7, 7, 7, 7, 7, 7, 7, 9)
	checkContent(t, "513 words", append(b, 0), 0, 2)
}

// TestContentsOfBrokenImages: whatever is broken, what is read is as the other
// telling has it.
func TestContentsOfBrokenImages(t *testing.T) {
	var met [3]int
	brokenImages(800, func(b []int64) {
		if names := impl.NamesIn(b); !same(names, wantNames(b)) {
			t.Fatalf("%v: the names are %v", b, names)
		}
		for which := int64(-1); which <= 5; which++ {
			for g := int64(-1); g <= 64; g++ {
				got, want := impl.ContentOf(b, which, g), wantContent(b, which, g)
				switch {
				case !same(got, want):
					t.Fatalf("%v: ContentOf %d, %d is %v, want %v", b, which, g, got, want)
				case len(got) == 0:
					met[0]++
				case slices.Max(got) == 0:
					met[1]++
				default:
					met[2]++
				}
			}
		}
	})
	if slices.Min(met[:]) < 1000 {
		t.Errorf("some are met too seldom: %v", met)
	}
}

func TestContentsAnswerEverywhere(t *testing.T) {
	headedImages(func(b []int64) {
		what := fmt.Sprint(len(b), " words")
		checkNames(t, what, b, wantNames(b)...)
		for _, which := range oddNumbers() {
			for _, g := range oddNumbers() {
				checkContent(t, what, b, which, g, wantContent(b, which, g)...)
			}
		}
	})
}

func TestContentsLeaveTheirArgument(t *testing.T) {
	for _, words := range append(headless(), allKinds(), allKinds()[:117], sharing(), sharing()[:83], someDisk()[:43]) {
		b := guard(words)
		for which := int64(-1); which <= 5; which++ {
			for g := int64(-1); g <= 20; g++ {
				spoil(impl.ContentOf(b.list, which, g))
			}
		}
		spoil(impl.NamesIn(b.list))
		b.check(t, "contents")
	}
}

// TestContentsAnswerAnew: an answer that somebody wrote over is not given
// again, zeros least of all.
func TestContentsAnswerAnew(t *testing.T) {
	b := sharing()
	content, zeros, names := impl.ContentOf(b, 0, 0), impl.ContentOf(b, 0, 8), impl.NamesIn(b)
	spoil(impl.ContentOf(b, 0, 0))
	spoil(impl.ContentOf(b, 0, 8))
	spoil(impl.NamesIn(b))
	if !same(content, wantContent(b, 0, 0)) || !same(zeros, make([]int64, 8)) || !same(names, wantNames(b)) {
		t.Error("two answers share memory")
	}
	checkContent(t, "asked again", b, 0, 0, wantContent(b, 0, 0)...)
	checkZeros(t, "asked again", b, 0, 8)
	checkNames(t, "asked again", b, wantNames(b)...)
}
