package impl

const MaxWords = 512
const MaxWord = 65535
const Width = 8

// cluster is generic because what is a plain word here is read as something
// more by the layers above.
type cluster[W any] [Width]W

func ImageOk(b []int64) bool {
	return len(b) <= MaxWords && wordsOk(b)
}

func ClustersIn(b []int64) int64 {
	if !ImageOk(b) {
		return -1
	}
	return clustersFor(len(b))
}

func ClusterAt(b []int64, at int64) []int64 {
	// Where b is no image, ClustersIn is -1 and no place is below it.
	if at < 0 || at >= ClustersIn(b) {
		return nil
	}
	from := at * Width
	return joined(clustersOf(b[from:min(from+Width, int64(len(b)))]))
}

func WithCluster(b []int64, at int64, words []int64) []int64 {
	if !clusterOk(words) || at < 0 || at > ClustersIn(b) {
		return nil
	}
	clusters := clustersOf(b)
	if at == int64(len(clusters)) {
		clusters = append(clusters, cluster[int64]{})
	}
	copy(clusters[at][:], words)
	changed := joined(clusters)
	// One more cluster may be one too many.
	if !ImageOk(changed) {
		return nil
	}
	return changed
}

func wordOk(w int64) bool {
	return w >= 0 && w <= MaxWord
}

func wordsOk(words []int64) bool {
	for _, w := range words {
		if !wordOk(w) {
			return false
		}
	}
	return true
}

func clusterOk(words []int64) bool {
	return len(words) == Width && wordsOk(words)
}

// clustersOf copies, so that nobody above can reach the image it came from; an
// array begins as zeros, which is what the last cluster lacks.
func clustersOf(b []int64) []cluster[int64] {
	clusters := make([]cluster[int64], clustersFor(len(b)))
	for i, w := range b {
		clusters[i/Width][i%Width] = w
	}
	return clusters
}

func joined(clusters []cluster[int64]) []int64 {
	words := make([]int64, 0, len(clusters)*Width)
	for _, c := range clusters {
		words = append(words, c[:]...)
	}
	return words
}

// clustersFor is asked far more often than the clusters themselves are, so that
// it does without them.
func clustersFor(many int) int64 {
	return int64((many + Width - 1) / Width)
}
