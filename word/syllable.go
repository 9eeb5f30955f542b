package word

import (
	"slices"

	"cognate/api"
	"cognate/feature"
)

// Peaks are the letters of a class, by their numbers.
func Peaks(a api.Alphabet, w string, plus, minus uint32) ([]int, api.Errno) {
	_, peaks, e := lettersAndPeaks(a, w, plus, minus)
	return peaks, e
}

// Syllables is the word cut into syllables about the letters of a class.
func Syllables(a api.Alphabet, w string, plus, minus uint32) ([]api.Span, api.Errno) {
	letters, peaks, e := lettersAndPeaks(a, w, plus, minus)
	if e != api.OK {
		return nil, e
	}
	var l []api.Span
	from := 0
	for i, peak := range peaks {
		to := letters
		if i+1 < len(peaks) {
			to = begin(peak, peaks[i+1])
		}
		l = append(l, api.Span{From: from, To: to})
		from = to
	}
	return l, api.OK
}

// lettersAndPeaks is how many letters a word has, and the numbers of those of a class.
func lettersAndPeaks(a api.Alphabet, w string, plus, minus uint32) (letters int, peaks []int, e api.Errno) {
	l, e := Letters(a, w)
	if e != api.OK {
		return 0, nil, e
	}
	class, e := feature.Class(a, plus, minus)
	if e != api.OK {
		return 0, nil, e
	}
	for number, r := range l {
		if slices.Contains(class, r) {
			peaks = append(peaks, number)
		}
	}
	return len(l), peaks, api.OK
}

// begin is where a peak's syllable begins behind an earlier peak: one letter ahead of it, unless that is the earlier peak.
func begin(earlier, peak int) int { return max(peak-1, earlier+1) }
