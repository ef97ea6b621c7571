package pairs

import (
	"slices"

	"parquetry/api"
)

// none stands where there is no direction; no class has this number.
const none = -1

// Brackets answers what the classes of a sequence of that level, with that direction ahead, are behind the rule for brackets; none, if the lists are unlike long.
func Brackets(types, codes, own []int, level, sos int) []int {
	if len(types) != len(codes) || len(types) != len(own) {
		return nil
	}
	s := sequence{classes: slices.Clone(types), own: own, sos: sos, direction: direction(level)}
	for _, pair := range Find(types, codes) {
		if to := s.outcome(pair); to != none {
			s.become(pair.Open, to)
			s.become(pair.Close, to)
		}
	}
	return s.classes
}

// direction answers that of a level.
func direction(level int) int {
	if level%2 == 0 {
		return api.BidiL
	}
	return api.BidiR
}

// opposite answers the other one of the two directions.
func opposite(direction int) int {
	if direction == api.BidiL {
		return api.BidiR
	}
	return api.BidiL
}

// letter answers the letter of a class, or none.
func letter(class int) int {
	switch class {
	case api.BidiL:
		return api.BidiL
	case api.BidiR, api.BidiEN, api.BidiAN:
		return api.BidiR
	}
	return none
}

// sequence is one's classes, as they are by then, its own ones, the direction ahead of it, and its own direction.
type sequence struct {
	classes, own   []int
	sos, direction int
}

// outcome answers which direction the brackets of a pair take, or none.
func (s sequence) outcome(pair api.Pair) int {
	other := opposite(s.direction)
	switch {
	case s.between(pair, s.direction):
		return s.direction
	case !s.between(pair, other):
		return none
	case s.ahead(pair.Open) == other:
		return other
	}
	return s.direction
}

// between answers whether a letter stands between the brackets of a pair.
func (s sequence) between(pair api.Pair, wanted int) bool {
	return slices.ContainsFunc(s.classes[pair.Open+1:pair.Close], func(class int) bool {
		return letter(class) == wanted
	})
}

// ahead answers the last letter ahead of a place, or the direction ahead of the sequence.
func (s sequence) ahead(at int) int {
	for at--; at >= 0; at-- {
		if found := letter(s.classes[at]); found != none {
			return found
		}
	}
	return s.sos
}

// become gives a bracket, and the marks right behind it, a direction.
func (s sequence) become(at, direction int) {
	s.classes[at] = direction
	for at++; at < len(s.own) && s.own[at] == api.BidiNSM; at++ {
		s.classes[at] = direction
	}
}
