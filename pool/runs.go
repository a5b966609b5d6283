package pool

// nowhere is the place of a run that is not there.
const nowhere = -1

// runs are rows of free cells, by the places where they begin. A tree of the longest ones stands above the places, so that among very many runs one is still found, laid and taken away in few steps.
type runs struct {
	size int     // how many places the tree has: a power of 2, or 0 at first
	most []int32 // at size + i the length of the run that begins at place i, or 0; at i below size the greater one of those at 2i and 2i + 1
}

// grow makes room for so many places.
func (r *runs) grow(places int) {
	if places <= r.size {
		return
	}
	size := max(r.size, 1)
	for size < places {
		size *= 2
	}
	most := make([]int32, 2*size)
	copy(most[size:], r.most[r.size:])
	for i := size - 1; i > 0; i-- {
		most[i] = max(most[2*i], most[2*i+1])
	}
	r.size, r.most = size, most
}

// at answers how long the run is that begins at that place, 0 if none does.
func (r *runs) at(place int) int {
	return int(r.most[r.size+place])
}

// set has a run of n cells begin at that place, none if n is 0.
func (r *runs) set(place, n int) {
	i := r.size + place
	r.most[i] = int32(n)
	for i /= 2; i > 0; i /= 2 {
		longest := max(r.most[2*i], r.most[2*i+1])
		if r.most[i] == longest {
			return
		}
		r.most[i] = longest
	}
}

// first answers where the first run of at least n cells begins that begins at from or behind it.
func (r *runs) first(from, n int) int {
	if from >= r.size || int(r.most[1]) < n {
		return nowhere
	}
	i := r.size + from
	for int(r.most[i]) < n {
		// All that stands below the parent of a right child has been passed.
		for i%2 == 1 {
			i /= 2
		}
		if i == 0 {
			return nowhere
		}
		i++
	}
	for i < r.size {
		i *= 2
		if int(r.most[i]) < n {
			i++
		}
	}
	return i - r.size
}

// last answers where the last run begins that begins at upto or ahead of it.
func (r *runs) last(upto int) int {
	if upto < 0 || r.most[1] == 0 {
		return nowhere
	}
	i := r.size + upto
	for r.most[i] == 0 {
		// All that stands below the parent of a left child has been passed.
		for i%2 == 0 {
			i /= 2
		}
		if i == 1 {
			return nowhere
		}
		i--
	}
	for i < r.size {
		i = 2*i + 1
		if r.most[i] == 0 {
			i--
		}
	}
	return i - r.size
}
