package block

// life is whether a block lives, and whether it is a string, which stays as it is.
type life struct {
	lives, fixed bool
}

// kind is the kind of a block.
func (l life) kind() int {
	if l.fixed {
		return BlockText
	}
	return BlockPlain
}
