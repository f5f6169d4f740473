package glob

// row is a row of pieces that is laid over a row of places. A piece is a run, which stands for any stretch of places, or stands for one.
type row struct {
	pieces, places int
	run            func(i int) bool
	fits           func(i, k int) bool // does the piece i, which is no run, stand for the place k?
	beyond         func(i int) bool    // may the pieces from i on stand for places behind the last one?
}

// nothing is the answer of a row that must end where its places do.
func nothing(int) bool {
	return false
}

// covers tells whether all the pieces, in order, can stand for all the places.
func (r row) covers() bool {
	vain := map[int]int{} // of a run the first place from which it was tried in vain
	var try func(i, k int) bool
	try = func(i, k int) bool {
		for ; i < r.pieces && !r.run(i); i, k = i+1, k+1 {
			if k == r.places {
				return r.beyond(i)
			}
			if !r.fits(i, k) {
				return false
			}
		}
		if i == r.pieces {
			return k == r.places
		}
		// A run that ends nowhere from a place on ends nowhere from a later one on: no run is gone through twice, and calls nest no deeper than there are runs.
		if from, tried := vain[i]; tried && from <= k {
			return false
		}
		for at := k; at <= r.places; at++ {
			if try(i+1, at) {
				return true
			}
		}
		vain[i] = k
		return false
	}
	return try(0, 0)
}
