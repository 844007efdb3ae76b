package tests

import (
	"fmt"
	"slices"
	"testing"

	"loop.example/g00821/impl"
)

// nines are words that stand in no image below.
var nines = []int64{9001, 9002, 9003, 9004, 9005, 9006, 9007, 9008}

func wantSound(b []int64) bool {
	_, is := impl.HeadIn(b)
	return is && len(wantDefects(b)) == 0
}

// wantPutRight is the image with what it lacks of counts and flags; nothing
// where there is no room.
func wantPutRight(b []int64) []int64 {
	if len(b) > 512 {
		return nil
	}
	counted := wantCounted(b)
	if counted == nil {
		return nil
	}
	return wantOwned(counted)
}

// wantWritten tells it straight in the list, and by the other tellings of counts
// and flags. It is given eight right words.
func wantWritten(b []int64, g int64, words []int64) []int64 {
	if !wantSound(b) || g < 0 || g >= b[2] {
		return nil
	}
	want := slices.Clone(b)
	second, at := wantFirstEntry(b, 0, g>>3), wantEntry(b, 0, g)
	if second > 32767 && at > 32767 {
		copy(want[8*(at-32768):], words)
		return want
	}
	if second <= 32767 {
		table := make([]int64, 8)
		if second > 0 {
			table = wantCluster(b, int(second))
		}
		second = int64(len(want) / 8)
		want[8*b[3]+g>>3] = second
		want = append(want, table...)
	}
	want[8*(second&32767)+g&7] = int64(len(want) / 8)
	return wantPutRight(append(want, words...))
}

// wantPictured likewise. It is given a name that is a word.
func wantPictured(b []int64, name int64) []int64 {
	if !wantSound(b) || b[6] > 3 {
		return nil
	}
	want := slices.Clone(b)
	if want[6] == 0 {
		want[5] = int64(len(want) / 8)
		want = append(want, make([]int64, 8)...)
	}
	pair := want[8*want[5]+2*want[6]:]
	pair[0], pair[1] = name, int64(len(want)/8)
	want[6]++
	return wantPutRight(append(want, wantCluster(b, int(b[3]))...))
}

// checkIsWritten holds the answer against the one that is wanted, and is promise
// 17 where that is not nothing.
func checkIsWritten(t *testing.T, what string, b []int64, g int64, words, want []int64) {
	t.Helper()
	got := impl.Written(b, g, words)
	if !same(got, want) {
		t.Fatalf("%s: with %d written it is\n%v, want\n%v", what, g, got, want)
	}
	if len(got) == 0 {
		return
	}
	checkSoundAsWas(t, what, b, got)
	checkNames(t, what, got, wantNames(b)...)
	for which := range 1 + b[6] {
		for each := range b[2] {
			if which == 0 && each == g {
				checkContent(t, what, got, 0, g, words...)
			} else {
				checkContent(t, what, got, which, each, wantContent(b, which, each)...)
			}
		}
	}
}

// checkIsPictured likewise: what is read of the new Shot is what is of the disk.
func checkIsPictured(t *testing.T, what string, b []int64, name int64, want []int64) {
	t.Helper()
	got := impl.Pictured(b, name)
	if !same(got, want) {
		t.Fatalf("%s: pictured as %d it is\n%v, want\n%v", what, name, got, want)
	}
	if len(got) == 0 {
		return
	}
	checkSoundAsWas(t, what, b, got)
	checkNames(t, what, got, append(wantNames(b), name)...)
	for g := range b[2] {
		for which := range 1 + b[6] {
			checkContent(t, what, got, which, g, wantContent(b, which, g)...)
		}
		checkContent(t, what, got, 1+b[6], g, wantContent(b, 0, g)...)
	}
}

// checkSoundAsWas: it is Sound, and the Size and the number of the first table
// stay.
func checkSoundAsWas(t *testing.T, what string, b, got []int64) {
	t.Helper()
	if !impl.Sound(got) {
		t.Fatalf("%s: the defects %v", what, impl.DefectsIn(got))
	}
	was, _ := impl.HeadIn(b)
	if head, _ := impl.HeadIn(got); head.Size != was.Size || head.First != was.First || head.Refs != was.Refs {
		t.Fatalf("%s: the head is %v, and was %v", what, head, was)
	}
}

// shotOfDisk is someDisk with a Shot 99 of it.
func shotOfDisk() []int64 {
	return laid(impl.Head{Size: 20, First: 1, Refs: 2, Shots: 6, Many: 1},
		[]int64{4}, []int64{3}, []int64{1, 1, 1, 1, 2, 2, 1, 1}, []int64{0, 0, 5}, []int64{7, 7, 7, 7, 7, 7, 7, 9}, []int64{99, 7}, []int64{4})
}

// twiceInOne is a disk of 8, of which two clusters are one: 5.
func twiceInOne() []int64 {
	return laid(impl.Head{Size: 8, First: 1, Refs: 2}, []int64{32772}, []int64{3}, []int64{1, 1, 1, 1, 1, 2}, []int64{0, 5, 0, 0, 0, 0, 0, 5}, []int64{1, 2, 3, 4, 5, 6, 7, 8})
}

func TestWrittenThere(t *testing.T) {
	want := slices.Concat(someDisk()[:40], nines)
	checkIsWritten(t, "a disk", someDisk(), 2, nines, want)
	want = slices.Concat(inOrder()[:96], nines, inOrder()[104:])
	checkIsWritten(t, "a disk with Shots", inOrder(), 1, nines, want)
	// 64 clusters are no want of room for it.
	b := fills(someDisk(), 64)
	checkIsWritten(t, "64 clusters", b, 2, nines, slices.Concat(b[:40], nines, b[48:]))
	// Once more, and as it was.
	again := impl.Written(impl.Written(someDisk(), 2, nines), 2, []int64{7, 7, 7, 7, 7, 7, 7, 9})
	if !same(again, someDisk()) {
		t.Errorf("as it was: %v", again)
	}
}

func TestWrittenBehindTheOthers(t *testing.T) {
	disk := impl.Head{Size: 20, First: 1, Refs: 2}
	sevens := []int64{7, 7, 7, 7, 7, 7, 7, 9}
	shot := impl.Head{Size: 20, First: 1, Refs: 2, Shots: 6, Many: 1}
	ones := []int64{1, 1, 1, 1, 1, 1, 1, 1}
	shared := soundImages()[3]
	for _, c := range []struct {
		what string
		b    []int64
		g    int64
		want []int64
	}{
		{"the second table is own, no entry", someDisk(), 3,
			laid(disk, []int64{32772}, []int64{3}, ones[:7], []int64{0, 0, 32773, 32774}, sevens, nines)},
		{"the second table is own, the slot 7", someDisk(), 7,
			laid(disk, []int64{32772}, []int64{3}, ones[:7], []int64{0, 0, 32773, 0, 0, 0, 0, 32774}, sevens, nines)},
		{"no second table", someDisk(), 10,
			laid(disk, []int64{32772, 32774}, []int64{3}, ones, []int64{0, 0, 32773}, sevens, []int64{0, 0, 32775}, nines)},
		{"no second table, the last cluster", someDisk(), 19,
			laid(disk, []int64{32772, 0, 32774}, []int64{3}, ones, []int64{0, 0, 32773}, sevens, []int64{0, 0, 0, 32775}, nines)},
		{"the second table is not own, with an entry", shotOfDisk(), 2,
			laid(shot, []int64{32776}, []int64{3, 10}, ones, []int64{0, 0, 32773}, sevens, []int64{99, 7}, []int64{32772},
				[]int64{0, 0, 32777}, nines, []int64{1, 1, 1})},
		{"the second table is not own, no entry", shotOfDisk(), 0,
			laid(shot, []int64{32776}, []int64{3, 10}, []int64{1, 1, 1, 1, 1, 2, 1, 1}, []int64{0, 0, 5}, sevens, []int64{99, 7}, []int64{32772},
				[]int64{32777, 0, 5}, nines, []int64{1, 1, 1})},
		{"no second table, with a Shot", shotOfDisk(), 8,
			laid(shot, []int64{4, 32776}, []int64{3, 10}, []int64{1, 1, 1, 1, 2, 2, 1, 1}, []int64{0, 0, 5}, sevens, []int64{99, 7}, []int64{4},
				[]int64{32777}, nines, []int64{1, 1, 1})},
		{"the second table is own, and the entry is not", shared, 8,
			slices.Concat(withWords(shared, [2]int64{48, 32779}, [2]int64{65, 4}, [2]int64{67, 1}), nines)},
		{"one of two that are one", twiceInOne(), 7,
			slices.Concat(withWords(twiceInOne(), [2]int64{29, 1}, [2]int64{30, 1}, [2]int64{33, 32773}, [2]int64{39, 32774}), nines)},
		{"the other one of two that are one", twiceInOne(), 1,
			slices.Concat(withWords(twiceInOne(), [2]int64{29, 1}, [2]int64{30, 1}, [2]int64{33, 32774}, [2]int64{39, 32773}), nines)},
	} {
		if !impl.Sound(c.b) {
			t.Fatalf("%s: the defects %v", c.what, impl.DefectsIn(c.b))
		}
		checkIsWritten(t, c.what, c.b, c.g, nines, c.want)
	}
}

// TestWrittenBehindNobodys: what nobody leads to is not used again.
func TestWrittenBehindNobodys(t *testing.T) {
	b := fills(someDisk(), 7)
	want := withWords(b, [2]int64{31, 1}, [2]int64{35, 32775})
	checkIsWritten(t, "a cluster of others", b, 3, nines, append(want, nines...))
	b = append(someDisk(), make([]int64, 8)...)
	want = withWords(b, [2]int64{31, 1}, [2]int64{35, 32775})
	checkIsWritten(t, "a cluster of zeros", b, 3, nines, append(want, nines...))
}

// TestTwoAreWritten: of one second table, of two, and one twice.
func TestTwoAreWritten(t *testing.T) {
	disk := impl.Head{Size: 20, First: 1, Refs: 2}
	eights := []int64{8, 8, 8, 8, 8, 8, 8, 8}
	one := impl.Written(impl.Blank(20), 0, nines)
	for _, c := range []struct {
		g    int64
		want []int64
	}{
		{0, laid(disk, []int64{32772}, []int64{3}, []int64{1, 1, 1, 1, 1, 1}, []int64{32773}, eights)},
		{1, laid(disk, []int64{32772}, []int64{3}, []int64{1, 1, 1, 1, 1, 1, 1}, []int64{32773, 32774}, nines, eights)},
		{7, laid(disk, []int64{32772}, []int64{3}, []int64{1, 1, 1, 1, 1, 1, 1}, []int64{32773, 0, 0, 0, 0, 0, 0, 32774}, nines, eights)},
		{8, laid(disk, []int64{32772, 32774}, []int64{3}, []int64{1, 1, 1, 1, 1, 1, 1, 1}, []int64{32773}, nines, []int64{32775}, eights)},
		{18, laid(disk, []int64{32772, 0, 32774}, []int64{3}, []int64{1, 1, 1, 1, 1, 1, 1, 1}, []int64{32773}, nines, []int64{0, 0, 32775}, eights)},
	} {
		checkIsWritten(t, "a second one", one, c.g, eights, c.want)
	}
	// With what a Shot shares the second one is there already.
	shot := impl.Written(shotOfDisk(), 2, nines)
	checkIsWritten(t, "one twice", shot, 2, eights, withWords(shot,
		[2]int64{72, 8}, [2]int64{73, 8}, [2]int64{74, 8}, [2]int64{75, 8}, [2]int64{76, 8}, [2]int64{77, 8}, [2]int64{78, 8}, [2]int64{79, 8}))
	checkIsWritten(t, "one beside it", shot, 3, eights,
		append(withWords(shot, [2]int64{67, 32779}, [2]int64{83, 1}), eights...))
}

// TestWrittenAtTheEnds: the first cluster and the last one, of a disk that was
// never written, and of one on which the other one is.
func TestWrittenAtTheEnds(t *testing.T) {
	for _, size := range []int64{1, 8, 20, 64} {
		what := fmt.Sprint("the size ", size)
		b := impl.Blank(size)
		head := impl.Head{Size: size, First: 1, Refs: 2}
		firsts, seconds := make([]int64, 8), make([]int64, 8)
		firsts[(size-1)/8], seconds[(size-1)%8] = 32772, 32773
		checkIsWritten(t, what+", the first one", b, 0, nines,
			laid(head, []int64{32772}, []int64{3}, []int64{1, 1, 1, 1, 1, 1}, []int64{32773}, nines))
		checkIsWritten(t, what+", the last one", b, size-1, nines,
			laid(head, firsts, []int64{3}, []int64{1, 1, 1, 1, 1, 1}, seconds, nines))
		for _, ends := range [][2]int64{{0, size - 1}, {size - 1, 0}} {
			one := impl.Written(b, ends[0], nines)
			checkIsWritten(t, what+", both", one, ends[1], counting(8), wantWritten(one, ends[1], counting(8)))
		}
		for _, g := range []int64{-1, size, size + 1, 64, 128} {
			checkIsWritten(t, what+", past the ends", b, g, nines, nil)
			checkIsWritten(t, what+", past the ends", impl.Written(b, 0, nines), g, nines, nil)
		}
	}
}

// TestWrittenUntilItIsFull is of each cluster of a disk, in order and from
// behind, until there is no room; who is written already can be then, too.
func TestWrittenUntilItIsFull(t *testing.T) {
	for _, size := range []int64{1, 8, 9, 20, 64} {
		for _, last := range []int64{0, size - 1} {
			b := impl.Blank(size)
			full := false
			for step := range size {
				g := step
				if last > 0 {
					g = last - step
				}
				words := slices.Repeat([]int64{1000 + g}, 8)
				want := wantWritten(b, g, words)
				checkIsWritten(t, fmt.Sprintf("the size %d, from %d on", size, last), b, g, words, want)
				if full = full || want == nil; want != nil {
					b = want
				}
			}
			if full != (size == 64) {
				t.Errorf("the size %d, from %d on: is it full: %v", size, last, full)
			}
			checkIsWritten(t, "once more", b, last, nines, wantWritten(b, last, nines))
			if again := impl.Written(b, last, nines); len(again) != len(b) {
				t.Errorf("the size %d, once more: %v", size, again)
			}
		}
	}
}

// TestWordsThatAreWritten: all words are alike, those of a table and of a head,
// too; zeros take a cluster as others do.
func TestWordsThatAreWritten(t *testing.T) {
	for _, words := range [][]int64{
		make([]int64, 8), slices.Repeat([]int64{65535}, 8), {0, 65535, 0, 65535, 0, 65535, 0, 65535}, slices.Repeat([]int64{32768}, 8),
		{32769, 32770, 32771, 32772, 32773, 32774, 32775, 32776}, someDisk()[:8], impl.Blank(8)[:8], {1, 2, 3, 4, 5, 6, 7, 0}, {0, 0, 0, 0, 0, 0, 0, 1},
	} {
		what := fmt.Sprint("the words ", words)
		checkIsWritten(t, what, someDisk(), 2, words, slices.Concat(someDisk()[:40], words))
		want := withWords(someDisk(), [2]int64{30, 1}, [2]int64{35, 32774})
		checkIsWritten(t, what, someDisk(), 3, words, append(want, words...))
		for _, b := range [][]int64{someDisk(), shotOfDisk(), inOrder(), fills(someDisk(), 64), fills(someDisk(), 62), fills(shotOfDisk(), 64), fills(shotOfDisk(), 63)} {
			for _, g := range []int64{0, 2, 8, 19} {
				checkIsWritten(t, what, b, g, words, wantWritten(b, g, words))
			}
		}
	}
}

func TestWordsThatAreNotRight(t *testing.T) {
	lists := [][]int64{nil, {}, {1}, nines[:7], counting(9), counting(16), make([]int64, 7), make([]int64, 9), make([]int64, 512)}
	for at := range nines {
		for _, w := range oddNumbers() {
			if w < 0 || w > 65535 {
				lists = append(lists, withWord(nines, at, w))
			}
		}
	}
	for _, words := range lists {
		for _, b := range [][]int64{someDisk(), shotOfDisk(), impl.Blank(64)} {
			for _, g := range []int64{2, 3, 10, -1} {
				if got := impl.Written(b, g, words); len(got) != 0 {
					t.Errorf("the words %v: %v", words, got)
				}
			}
		}
	}
}

func TestClustersThatAreNotOnTheDisk(t *testing.T) {
	for i, b := range append(soundImages(), impl.Blank(1), impl.Blank(64)) {
		for _, g := range append(oddNumbers(), b[2], b[2]+1, b[2]+8, b[2]-65, 1<<32) {
			checkIsWritten(t, fmt.Sprint("the sound image ", i), b, g, nines, wantWritten(b, g, nines))
		}
	}
}

// notSound are images that are Mild and not Sound, such as are neither, and
// lists that are no image at all.
func notSound() [][]int64 {
	lists := append(nearlyAllKinds(), nil, []int64{}, wrongFlags(), allOwn(inOrder()), allOwn(shotOfDisk()), allKinds(), fullDisk(20), eightBlocks())
	for _, b := range [][]int64{someDisk(), inOrder(), shotOfDisk(), impl.Blank(20)} {
		block := int64(24)
		if len(b) > 100 {
			block = 64
		}
		for _, w := range [][2]int64{{block, 0}, {block, 2}, {block + 5, 9}, {block + 7, 5}, {3, 0}, {3, 64}, {4, 0}, {8, 32768}, {8, 63}, {16, 32771}, {16, 0}, {5, 2}} {
			if b[w[0]] != w[1] {
				lists = append(lists, withWord(b, int(w[0]), w[1]))
			}
		}
		lists = append(lists, b[:len(b)-1], append(slices.Clone(b), 0), b[:len(b)-8], append(slices.Clone(b), make([]int64, 513-len(b))...))
	}
	return slices.DeleteFunc(lists, wantSound)
}

func TestWhatIsNotSoundIsNotWritten(t *testing.T) {
	mild, grave, none := 0, 0, 0
	for i, b := range notSound() {
		for _, g := range []int64{0, 1, 2, 3, 8, 10, 19, -1, 20} {
			if got := impl.Written(b, g, nines); len(got) != 0 {
				t.Errorf("the list %d, %d: %v", i, g, got)
			}
		}
		for _, name := range []int64{0, 5, 99, 65535, -1, 65536} {
			if got := impl.Pictured(b, name); len(got) != 0 {
				t.Errorf("the list %d, %d: %v", i, name, got)
			}
		}
		switch {
		case impl.Mild(b):
			mild++
		case isImage(b):
			grave++
		default:
			none++
		}
	}
	if mild < 10 || grave < 20 || none < 20 {
		t.Errorf("%d are Mild, %d are not, %d are no image", mild, grave, none)
	}
}

func TestPicturedWithoutShots(t *testing.T) {
	checkIsPictured(t, "a disk", someDisk(), 99, shotOfDisk())
	for _, size := range []int64{1, 8, 20, 64} {
		want := laid(impl.Head{Size: size, First: 1, Refs: 2, Shots: 4, Many: 1}, nil, []int64{3}, []int64{1, 1, 1, 1, 1, 1}, []int64{99, 5}, nil)
		checkIsPictured(t, fmt.Sprint("the size ", size), impl.Blank(size), 99, want)
	}
	// A first table that leads to several, of which some have a cluster twice.
	b := laid(impl.Head{Size: 64, First: 1, Refs: 2}, []int64{32772, 0, 0, 0, 0, 0, 0, 32773}, []int64{3}, []int64{1, 1, 1, 1, 1, 1, 1, 2},
		[]int64{32774, 7}, []int64{7}, []int64{5, 5}, nil)
	want := laid(impl.Head{Size: 64, First: 1, Refs: 2, Shots: 8, Many: 1}, []int64{4, 0, 0, 0, 0, 0, 0, 5}, []int64{3, 10}, []int64{1, 1, 1, 1, 2, 2, 2, 4},
		[]int64{6, 7}, []int64{7}, []int64{5, 5}, nil, []int64{0, 9}, []int64{4, 0, 0, 0, 0, 0, 0, 5}, []int64{1, 1, 1})
	checkIsPictured(t, "two second tables", b, 0, want)
}

func TestPicturedWithShots(t *testing.T) {
	sevens := []int64{7, 7, 7, 7, 7, 7, 7, 9}
	all := []int64{99, 7, 98, 8, 97, 10, 96, 11}
	b := shotOfDisk()
	for many := int64(2); many <= 4; many++ {
		want := laid(impl.Head{Size: 20, First: 1, Refs: 2, Shots: 6, Many: many}, []int64{4}, []int64{3, 9}, []int64{1, 1, 1, 1, many + 1, many + 1, 1, 1},
			[]int64{0, 0, 5}, sevens, all[:2*many], []int64{4}, []int64{4}, []int64{1, 1, 1, 1}[:many], []int64{4}, []int64{4})[:8*(8+many)]
		checkIsPictured(t, fmt.Sprint(many-1, " Shots"), b, 100-many, want)
		b = want
	}
	for _, name := range []int64{0, 95, 96, 99, 65535} {
		checkIsPictured(t, "MaxShots", b, name, nil)
	}
	// Words behind the first Many pairs may be anything, and what is behind the
	// new one stays.
	want := append(withWords(inOrder(), [2]int64{6, 3}, [2]int64{72, 5}, [2]int64{41, 12}, [2]int64{92, 77}, [2]int64{93, 15},
		[2]int64{68, 3}, [2]int64{69, 2}, [2]int64{12, 2}, [2]int64{13, 3}, [2]int64{15, 1}), 5, 0, 4, 0, 0, 0, 0, 0)
	checkIsPictured(t, "words behind the Shots", inOrder(), 77, want)
}

func TestNamesOfPictures(t *testing.T) {
	for _, name := range append(oddNumbers(), 99, 91, 92, 98, 32767, 32768, 32769, 65534, 65537, 131071) {
		for i, b := range [][]int64{someDisk(), shotOfDisk(), inOrder(), impl.Blank(8), soundImages()[3]} {
			var want []int64
			if name >= 0 && name <= 65535 {
				want = wantPictured(b, name)
			}
			if isWord := name >= 0 && name <= 65535; isWord != (len(want) > 0) {
				t.Fatalf("the image %d, %d: want %v", i, name, want)
			}
			checkIsPictured(t, fmt.Sprintf("the image %d, the name %d", i, name), b, name, want)
		}
	}
}

// tight is the Sound image with clusters behind it that nobody leads to, up to
// that many, and with a block for the last eight, where it is to have one.
func tight(b []int64, many int, lastBlock bool) []int64 {
	if lastBlock {
		b = wantCounted(append(withWord(b, int(8*b[4]+7), int64(len(b)/8)), make([]int64, 8)...))
	}
	return wantOwned(withCounts(fills(b, many)))
}

// change is one that takes so many new clusters, beside the blocks.
type change struct {
	what  string
	b     []int64
	takes int
	g     int64 // -1: it is pictured
}

func (c change) check(t *testing.T, what string, b []int64, want int) {
	t.Helper()
	var words []int64
	if c.g < 0 {
		words = wantPictured(b, 5)
		checkIsPictured(t, what, b, 5, words)
	} else {
		words = wantWritten(b, c.g, nines)
		checkIsWritten(t, what, b, c.g, nines, words)
	}
	if len(words) != 8*want {
		t.Errorf("%s: %d words, want %d clusters", what, len(words), want)
	}
}

func changes() []change {
	return []change{
		{"written there", someDisk(), 0, 2},
		{"written in an own table", someDisk(), 1, 3},
		{"written in no table", someDisk(), 2, 8},
		{"written in a table that is not own", shotOfDisk(), 2, 2},
		{"written beside it", shotOfDisk(), 2, 3},
		{"written in place of one of two", twiceInOne(), 1, 1},
		{"pictured", shotOfDisk(), 1, -1},
		{"pictured without Shots", someDisk(), 2, -1},
	}
}

// TestRoomOnADisk is of images that have 60 to 64 clusters when it begins.
func TestRoomOnADisk(t *testing.T) {
	// By how many there are, and how many it takes; 0 is no room.
	withBlock := map[int][3]int{60: {60, 61, 62}, 61: {61, 62, 63}, 62: {62, 63, 64}, 63: {63, 64, 0}, 64: {64, 0, 0}}
	without := map[int][3]int{60: {60, 62, 63}, 61: {61, 63, 64}, 62: {62, 64, 0}, 63: {63, 0, 0}, 64: {64, 0, 0}}
	for _, c := range changes() {
		for many := 60; many <= 64; many++ {
			c.check(t, fmt.Sprint(c.what, ", with a block, of ", many), tight(c.b, many, true), withBlock[many][c.takes])
			c.check(t, fmt.Sprint(c.what, ", without one, of ", many), tight(c.b, many, false), without[many][c.takes])
		}
	}
}

// TestBlocksOnADisk: a block that is needed may itself need one.
func TestBlocksOnADisk(t *testing.T) {
	for many, want := range map[int][3]int{14: {14, 16, 18}, 15: {15, 18, 19}, 16: {16, 18, 19}, 22: {22, 24, 26}, 54: {54, 56, 58}, 55: {55, 58, 59}, 56: {56, 58, 59}} {
		for _, c := range changes() {
			c.check(t, fmt.Sprint(c.what, ", of ", many), tight(c.b, many, false), want[c.takes])
		}
	}
	// From 8 clusters on there is none but that of the first eight.
	c := change{g: 3}
	c.check(t, "7 clusters", tight(someDisk(), 7, false), 8)
	c.check(t, "8 clusters", tight(someDisk(), 8, false), 10)
	c.g = 8
	c.check(t, "7 clusters", tight(someDisk(), 7, false), 10)
	c.check(t, "6 clusters", tight(someDisk(), 6, false), 8)
}

// model is what is read of a disk and of its Shots, told by what was done.
type model struct {
	names []int64
	reads [][][]int64 // of the disk, and of each Shot, each cluster
}

func newModel(size int64) *model {
	disk := make([][]int64, size)
	for g := range disk {
		disk[g] = make([]int64, 8)
	}
	return &model{reads: [][][]int64{disk}}
}

// picture answers the image as it is then, and tells what sort of change it was.
func (m *model) picture(t *testing.T, what string, b []int64, name int64) ([]int64, string) {
	t.Helper()
	got, want := impl.Pictured(b, name), wantPictured(b, name)
	if !same(got, want) {
		t.Fatalf("%s: pictured it is\n%v, want\n%v", what, got, want)
	}
	sort := fmt.Sprintf("pictured %v, MaxShots %v", want != nil, len(m.names) == 4)
	if want == nil {
		return b, sort
	}
	m.names = append(m.names, name)
	m.reads = append(m.reads, slices.Clone(m.reads[0]))
	return got, sort
}

// write likewise: the entries are told as none (0), another one's (1), own (2).
func (m *model) write(t *testing.T, what string, b []int64, g int64, words []int64) ([]int64, string) {
	t.Helper()
	got, want := impl.Written(b, g, words), wantWritten(b, g, words)
	if !same(got, want) {
		t.Fatalf("%s: with %d written it is\n%v, want\n%v", what, g, got, want)
	}
	sort := fmt.Sprintf("written %v, from %d, to %d", want != nil, (wantFirstEntry(b, 0, g>>3)+32767)/32768, (wantEntry(b, 0, g)+32767)/32768)
	if want == nil {
		return b, sort
	}
	m.reads[0][g] = words
	return got, sort
}

func (m *model) check(t *testing.T, what string, b []int64) {
	t.Helper()
	if !impl.Sound(b) {
		t.Fatalf("%s: the defects %v", what, impl.DefectsIn(b))
	}
	checkNames(t, what, b, m.names...)
	for which, disk := range m.reads {
		for g, words := range disk {
			checkContent(t, what, b, int64(which), int64(g), words...)
		}
		checkContent(t, what, b, int64(which), int64(len(disk)))
	}
	checkContent(t, what, b, int64(len(m.reads)), 0)
}

// wordsBy are eight, of which about half are 0.
func wordsBy(next func(below int64) int64) []int64 {
	words := make([]int64, 8)
	for at := range words {
		words[at] = next(65536) * next(2)
	}
	return words
}

// TestManyDisksInTurn is promise 17 at large: of disks that are written and
// pictured until they are full, and beyond; with the sorts of changes that were
// met. Some begin with clusters that nobody leads to.
func TestManyDisksInTurn(t *testing.T) {
	state := uint64(17)
	next := func(below int64) int64 {
		state = state*6364136223846793005 + 1442695040888963407
		return int64((state >> 33) % uint64(below))
	}
	met := make(map[string]int)
	for i, size := range slices.Repeat([]int64{1, 8, 9, 20, 33, 47, 60, 64}, 4) {
		b, m := fills(impl.Blank(size), 4+17*(i/8)), newModel(size)
		for step := range 60 {
			var sort string
			what := fmt.Sprintf("the disk %d, of %d, step %d", i, size, step)
			if next(int64(6+20*(i%3))) == 0 {
				b, sort = m.picture(t, what, b, next(65536))
			} else {
				b, sort = m.write(t, what, b, next(1+next(size)), wordsBy(next))
			}
			m.check(t, what, b)
			met[sort]++
		}
	}
	for _, each := range []string{
		"pictured true, MaxShots false", "pictured false, MaxShots false", "pictured false, MaxShots true",
		"written true, from 0, to 0", "written true, from 1, to 0", "written true, from 1, to 1",
		"written true, from 2, to 0", "written true, from 2, to 1", "written true, from 2, to 2",
		"written false, from 0, to 0", "written false, from 1, to 1", "written false, from 2, to 0",
	} {
		if met[each] < 5 {
			t.Errorf("%s: it is met too seldom: %v", each, met)
		}
	}
}

// TestDisksOfBrokenImages: what was repaired is Sound, and led to in ways that
// no disk is that was but written and pictured; what was not is not written.
func TestDisksOfBrokenImages(t *testing.T) {
	met := make(map[int64]int)
	brokenImages(250, func(broken []int64) {
		repaired := wantRepaired(broken)
		for i, b := range [][]int64{broken, repaired} {
			what := fmt.Sprint(b)
			g := int64(len(broken)) * 7 % b[2]
			for _, each := range []int64{g, b[2] - 1 - g, 1} {
				checkIsWritten(t, what, b, each, nines, wantWritten(b, each, nines))
			}
			checkIsPictured(t, what, b, broken[8], wantPictured(b, broken[8]))
			if i == 1 || wantSound(b) {
				met[b[6]]++
			}
		}
	})
	for many := range int64(3) {
		if met[many] < 20 {
			t.Errorf("%d Shots: it is met too seldom: %v", many, met)
		}
	}
}

func TestDiskAnswersEverywhere(t *testing.T) {
	headedImages(func(b []int64) {
		what := fmt.Sprint(len(b), " words")
		checkIsWritten(t, what, b, 3, nines, wantWritten(b, 3, nines))
		checkIsPictured(t, what, b, 3, wantPictured(b, 3))
	})
	for _, b := range append(oddImages(), someDisk(), inOrder(), fills(someDisk(), 64)) {
		for _, odd := range oddNumbers() {
			for _, words := range [][]int64{nil, nines, counting(7), {odd, 0, 0, 0, 0, 0, 0, 0}} {
				got := impl.Written(b, odd, words)
				if is := len(got) > 0; is && (len(words) != 8 || !isImage(words) || !wantSound(b) || odd < 0 || odd >= b[2]) {
					t.Errorf("%d words, %d, %v: %v", len(b), odd, words, got)
				}
			}
			if got := impl.Pictured(b, odd); len(got) > 0 && (odd < 0 || odd > 65535 || !wantSound(b)) {
				t.Errorf("%d words, %d: %v", len(b), odd, got)
			}
		}
	}
}

// disksAtAll are images of every sort that is answered: Sound ones, such as are
// not, with room and without.
func disksAtAll() [][]int64 {
	images := append(headless(), someDisk(), shotOfDisk(), inOrder(), impl.Blank(20), soundImages()[3], twiceInOne(), wrongFlags(), inOrder()[:83])
	return append(images, fills(someDisk(), 64), fills(shotOfDisk(), 63), tight(shotOfDisk(), 63, true))
}

func TestDisksLeaveTheirArguments(t *testing.T) {
	for _, list := range disksAtAll() {
		b, words := guard(list), guard(nines)
		for _, g := range []int64{0, 1, 2, 3, 7, 8, 19, -1, 20} {
			spoil(impl.Written(b.list, g, words.list))
			b.check(t, "writing")
			words.check(t, "writing")
		}
		for _, name := range []int64{0, 99, 65535, -1, 65536} {
			spoil(impl.Pictured(b.list, name))
			b.check(t, "picturing")
		}
	}
}

// TestDisksAnswerAnew: an answer that somebody wrote over is not given again.
func TestDisksAnswerAnew(t *testing.T) {
	for _, b := range disksAtAll() {
		for _, g := range []int64{0, 2, 3, 8, 19} {
			kept := impl.Written(b, g, nines)
			spoil(impl.Written(b, g, nines))
			if want := wantWritten(b, g, nines); !same(kept, want) || !same(impl.Written(b, g, nines), want) {
				t.Error("two answers share memory")
			}
		}
		kept := impl.Pictured(b, 99)
		spoil(impl.Pictured(b, 99))
		if want := wantPictured(b, 99); !same(kept, want) || !same(impl.Pictured(b, 99), want) {
			t.Error("two answers share memory")
		}
	}
}
