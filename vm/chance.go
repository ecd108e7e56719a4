package vm

// Each number drawn goes on from the seed by one stride, and is mixed by these.
const (
	stride      = 0x9E3779B97F4A7C15
	firstMixer  = 0xBF58476D1CE4E5B9
	secondMixer = 0x94D049BB133111EB
)

// Chance is the number by chance that is drawn behind so many others.
func Chance(seed, drawn int64) int64 {
	x := uint64(seed) + (uint64(drawn)+1)*stride
	x = (x ^ x>>30) * firstMixer
	x = (x ^ x>>27) * secondMixer
	x ^= x >> 31
	return int64(x >> 1)
}
