package local

// slack is that of some ticks, by its three numbers: how many of them the server gives, for how many tasks ask, and how long others keep jobs waiting.
type slack struct {
	given, asked, kept int
}

// left is what is given, less what is asked for, less the delay.
func (s slack) left() int {
	return sum(s.given, -s.asked, -s.kept)
}

// isShort tells whether something is asked for, and too little is given for it.
func (s slack) isShort() bool {
	return s.asked > 0 && s.left() < 0
}

// sum is all of l together; unlike that of ticks, it is of numbers below 0, too.
func sum(l ...int) int {
	all := 0
	for _, n := range l {
		all += n
	}
	return all
}
