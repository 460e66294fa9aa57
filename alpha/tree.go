package alpha

import (
	"ossuary/api"
	"ossuary/flow"
)

// tree leads from bits to signs.
type tree struct{ forks []fork }

// fork says where a nought leads, and where a one.
type fork [2]way

// way leads to a fork, by its place; to a sign, by a number below 0; or nowhere.
type way int

const (
	root    way = 0
	nowhere way = root // no way leads back to the root
)

// wayTo is the way that leads to a sign.
func wayTo(sign int) way { return way(-1 - sign) }

// sign is the sign to which a way leads, and whether it leads to one.
func (w way) sign() (int, bool) { return int(-1 - w), w < 0 }

// lay makes a word lead to its sign.
func (t *tree) lay(sign int, w word) {
	if len(t.forks) == 0 {
		t.forks = []fork{{}}
	}
	at, last := root, len(w)-1
	for _, one := range w[:last] {
		at = t.onward(at, one)
	}
	t.forks[at][digit(w[last])] = wayTo(sign)
}

// onward is the fork to which a bit leads from another one: a new one, if it led nowhere.
func (t *tree) onward(at way, one bool) way {
	if t.forks[at][digit(one)] == nowhere {
		t.forks[at][digit(one)] = way(len(t.forks))
		t.forks = append(t.forks, fork{})
	}
	return t.forks[at][digit(one)]
}

// read reads a word's bits, and tells its sign.
func (t *tree) read(r *flow.Reader) (int, api.Errno) {
	at := root
	for {
		one := r.Next()
		if e := r.Err(); e != api.OK {
			return 0, e
		}
		at = t.forks[at][digit(one)]
		if at == nowhere {
			return 0, api.ErrCode
		}
		if sign, is := at.sign(); is {
			return sign, api.OK
		}
	}
}

// digit is a bit as a number.
func digit(one bool) int {
	if one {
		return 1
	}
	return 0
}
