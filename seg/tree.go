package seg

// node is a node of a segment tree. It stands for consecutive numbers of a list, and its children for the first and the
// second half of them; a node of one number has no children.
type node struct {
	count, least, sum int
	// pending has already been made to least and sum, but not to the children.
	pending  change
	children [2]*node
}

// change is a change of numbers: each of them becomes 0 first if set is true, and is then increased by by. The zero
// value changes nothing.
type change struct {
	set bool
	by  int
}

// then returns the change that has the effect of c and, after it, of next.
func (c change) then(next change) change {
	if next.set {
		return next
	}
	return change{set: c.set, by: c.by + next.by}
}

// build returns the root of the tree of l, which has at least one number.
func build(l []int) *node {
	n := &node{count: len(l)}
	if len(l) == 1 {
		n.least, n.sum = l[0], l[0]
		return n
	}
	half := len(l) / 2
	n.children = [2]*node{build(l[:half]), build(l[half:])}
	n.update()
	return n
}

// update computes least and sum from the children.
func (n *node) update() {
	n.least = min(n.children[0].least, n.children[1].least)
	n.sum = n.children[0].sum + n.children[1].sum
}

// apply makes the change c to all numbers of n. The children are left for later, so that it takes the same time however
// many numbers there are.
func (n *node) apply(c change) {
	if c.set {
		n.least, n.sum = 0, 0
	}
	n.least += c.by
	n.sum += c.by * n.count
	n.pending = n.pending.then(c)
}

// push makes the pending change to the children.
func (n *node) push() {
	for _, child := range n.children {
		child.apply(n.pending)
	}
	n.pending = change{}
}

// visit calls f with the fewest nodes that together stand for the numbers from lo to hi, where 0 is the first number of
// n. The range may begin before n and end behind it. If f changes numbers, the nodes above them are updated.
func (n *node) visit(lo, hi int, f func(part *node)) {
	if hi < 0 || lo >= n.count {
		return
	}
	if lo <= 0 && hi >= n.count-1 {
		f(n)
		return
	}
	n.push()
	for _, child := range n.children {
		child.visit(lo, hi, f)
		lo, hi = lo-child.count, hi-child.count
	}
	n.update()
}

// appendTo returns l with the numbers of n behind it.
func (n *node) appendTo(l []int) []int {
	if n.count == 1 {
		return append(l, n.sum)
	}
	n.push()
	for _, child := range n.children {
		l = child.appendTo(l)
	}
	return l
}
