package paren_test

import (
	"math"
	"slices"
	"strings"
	"testing"

	"damask/api"
	"damask/paren"
)

// mostBytes is the length of the longest string that is not too long.
const mostBytes = 2 * api.MaxNodes

// extremes are numbers that are no index of any string and no parent of any node.
var extremes = []int{math.MinInt, math.MinInt + 1, -1 << 62, -1 << 32, -mostBytes, -api.MaxNodes, -64, -2, mostBytes,
	mostBytes + 1, 1 << 32, 1 << 62, math.MaxInt - 1, math.MaxInt}

// pair is a pair of matching parentheses, by their indices.
type pair struct{ first, last int }

// isBalanced removes pairs without anything between them until none is left.
func isBalanced(s string) bool {
	for strings.Contains(s, "()") {
		s = strings.ReplaceAll(s, "()", "")
	}
	return s == ""
}

// pairsOf looks at every '(' and ')' of s: they match if what is between them is balanced.
func pairsOf(s string) []pair {
	var pairs []pair
	for a := range len(s) {
		if s[a] != '(' {
			continue
		}
		depth := 0
		for b := a + 1; b < len(s) && depth >= 0; b++ {
			if s[b] == ')' && depth == 0 {
				pairs = append(pairs, pair{a, b})
			}
			if s[b] == '(' {
				depth++
			} else {
				depth--
			}
		}
	}
	return pairs
}

// pairAt returns the one of the pairs to which index i belongs.
func pairAt(pairs []pair, i int) pair {
	return pairs[slices.IndexFunc(pairs, func(p pair) bool { return p.first == i || p.last == i })]
}

// enclosing returns the innermost one of the pairs that encloses p, and whether there is one.
func enclosing(pairs []pair, p pair) (inner pair, ok bool) {
	for _, q := range pairs {
		if q.first < p.first && p.last < q.last && (!ok || q.last-q.first < inner.last-inner.first) {
			inner, ok = q, true
		}
	}
	return inner, ok
}

// treeOf returns the parents of all nodes of s, which must be balanced, by its pairs.
func treeOf(s string) []int {
	pairs := pairsOf(s)
	parents := make([]int, len(pairs))
	for i, p := range pairs {
		parents[i] = -1
		if q, ok := enclosing(pairs, p); ok {
			parents[i] = strings.Count(s[:q.first], "(")
		}
	}
	return parents
}

// textOf returns the string whose parents are the given ones, and whether there is one. It lays each node's children
// inside of it, and looks whether the nodes of the string are in order.
func textOf(parents []int) (string, bool) {
	children := map[int][]int{}
	for i, parent := range parents {
		if parent < -1 || parent >= i {
			return "", false
		}
		children[parent] = append(children[parent], i)
	}
	var lay func(i int) string
	lay = func(i int) string {
		s := ""
		for _, child := range children[i] {
			s += "(" + lay(child) + ")"
		}
		return s
	}
	s := lay(-1)
	if !slices.Equal(treeOf(s), parents) {
		return "", false
	}
	return s, true
}

// deep returns n pairs each of which is inside of the one before.
func deep(n int) string {
	return strings.Repeat("(", n) + strings.Repeat(")", n)
}

// wide returns n pairs that follow one another.
func wide(n int) string {
	return strings.Repeat("()", n)
}

// mixed returns n pairs in a fixed mixed order; the larger the lean, the deeper they are.
func mixed(n, lean int) string {
	state := uint64(1000*n + lean)
	var s []byte
	open, depth := n, 0
	for open > 0 || depth > 0 {
		state = state*6364136223846793005 + 1442695040888963407
		if open > 0 && (depth == 0 || int(state>>33)%10 < lean) {
			s = append(s, '(')
			open--
			depth++
		} else {
			s = append(s, ')')
			depth--
		}
	}
	return string(s)
}

// shapes returns balanced strings of n pairs, of which there is at least one.
func shapes(n int) []string {
	half := n / 2
	return []string{
		deep(n),
		wide(n),
		"(" + wide(n-1) + ")",
		"(" + deep(n-1) + ")",
		"()" + deep(n-1),
		deep(n-1) + "()",
		deep(half) + deep(n-half),
		wide(half) + deep(n-half),
		deep(half) + wide(n-half),
		strings.Repeat("(", half) + wide(n-half) + strings.Repeat(")", half),
		strings.Repeat("()(", half) + wide(n-2*half) + strings.Repeat(")", half),
		strings.Repeat("(", half) + wide(n-2*half) + strings.Repeat("())", half),
		strings.Repeat("(())", half) + wide(n-2*half),
		mixed(n, 3),
		mixed(n, 5),
		mixed(n, 7),
	}
}

// eachSmall calls f with all balanced strings of up to most pairs.
func eachSmall(most int, f func(s string)) {
	all := [][]string{{""}}
	f("")
	for n := 1; n <= most; n++ {
		var strings []string
		for inside := range n {
			for _, a := range all[inside] {
				for _, b := range all[n-1-inside] {
					strings = append(strings, "("+a+")"+b)
				}
			}
		}
		for _, s := range strings {
			f(s)
		}
		all = append(all, strings)
	}
}

// eachLarge calls f with balanced strings of all shapes up to MaxNodes pairs.
func eachLarge(f func(s string)) {
	for _, n := range []int{1, 2, 3, 31, 32, 33, 63, 64, 65, 99, 100, 127, 128, 129, api.MaxNodes - 1, api.MaxNodes} {
		for _, s := range shapes(n) {
			f(s)
		}
	}
}

// eachString calls f with all strings of up to most bytes of the alphabet.
func eachString(alphabet string, most int, f func(s string)) {
	level := []string{""}
	for range most + 1 {
		var next []string
		for _, s := range level {
			f(s)
			for i := range len(alphabet) {
				next = append(next, s+alphabet[i:i+1])
			}
		}
		level = next
	}
}

// eachList calls f with all lists of n numbers from low to high.
func eachList(n, low, high int, f func(l []int)) {
	l := make([]int, n)
	var lay func(i int)
	lay = func(i int) {
		if i == n {
			f(l)
			return
		}
		for x := low; x <= high; x++ {
			l[i] = x
			lay(i + 1)
		}
	}
	lay(0)
}

func checkCheck(t *testing.T, s string, want api.Errno) {
	t.Helper()
	if err := paren.Check(s); err != want {
		t.Errorf("Check(%q) = %d; want %d", s, err, want)
	}
}

func checkMatch(t *testing.T, s string, i, want int, wantErr api.Errno) {
	t.Helper()
	if got, err := paren.Match(s, i); err != wantErr || got != want {
		t.Errorf("Match(%q, %d) = %d, %d; want %d, %d", s, i, got, err, want, wantErr)
	}
}

func checkEnclose(t *testing.T, s string, i, want int, wantErr api.Errno) {
	t.Helper()
	if got, err := paren.Enclose(s, i); err != wantErr || got != want {
		t.Errorf("Enclose(%q, %d) = %d, %d; want %d, %d", s, i, got, err, want, wantErr)
	}
}

func checkTree(t *testing.T, s string, want []int, wantErr api.Errno) {
	t.Helper()
	if got, err := paren.Tree(s); err != wantErr || !slices.Equal(got, want) {
		t.Errorf("Tree(%q) = %v, %d; want %v, %d", s, got, err, want, wantErr)
	}
}

func checkText(t *testing.T, parents []int, want string, wantErr api.Errno) {
	t.Helper()
	if got, err := paren.Text(parents); err != wantErr || got != want {
		t.Errorf("Text(%v) = %q, %d; want %q, %d", parents, got, err, want, wantErr)
	}
}

// checkNone checks that every function that takes a string returns the error for s, whatever the index is.
func checkNone(t *testing.T, s string, want api.Errno) {
	t.Helper()
	checkCheck(t, s, want)
	checkTree(t, s, nil, want)
	for _, i := range append([]int{-1, 0, 1, len(s) / 2, len(s) - 1, len(s), len(s) + 1}, extremes...) {
		checkMatch(t, s, i, 0, want)
		checkEnclose(t, s, i, 0, want)
	}
}

// checkIndices compares Match and Enclose with the pairs of s, at each of its indices.
func checkIndices(t *testing.T, s string) {
	t.Helper()
	pairs := pairsOf(s)
	for i := range len(s) {
		p := pairAt(pairs, i)
		checkMatch(t, s, i, p.first+p.last-i, api.OK)
		if q, ok := enclosing(pairs, p); ok {
			checkEnclose(t, s, i, q.first, api.OK)
		} else {
			checkEnclose(t, s, i, 0, api.ErrNone)
		}
	}
}

// checkForest compares Tree with the pairs of s and with Enclose of every '(', and Text with s.
func checkForest(t *testing.T, s string) {
	t.Helper()
	checkTree(t, s, treeOf(s), api.OK)
	parents, _ := paren.Tree(s)
	checkText(t, parents, s, api.OK)
	if len(parents) != strings.Count(s, "(") {
		t.Fatalf("Tree(%q) has %d parents", s, len(parents))
	}
	for i, parent := range parents {
		want := -1
		if first, err := paren.Enclose(s, openOf(s, i)); err == api.OK {
			want = strings.Count(s[:first], "(")
		}
		if parent != want {
			t.Errorf("Tree(%q): the parent of %d is %d; Enclose says %d", s, i, parent, want)
		}
	}
}

// openOf returns the index of the '(' of s that has n of them before it.
func openOf(s string, n int) int {
	for i := range len(s) {
		if s[i] == '(' {
			if n == 0 {
				return i
			}
			n--
		}
	}
	return -1
}

func TestCheck(t *testing.T) {
	for _, s := range []string{"", "()", "()()", "(())", "(()(()))()", "(((())))", "()(())()"} {
		checkCheck(t, s, api.OK)
	}
	for _, s := range []string{"())(", "(", ")", ")(", "((", "))", "(()", "())", "()(", "())()(", "(a)", "[]", "{}"} {
		checkCheck(t, s, api.ErrForm)
	}
}

func TestCheckEachBalancedString(t *testing.T) {
	eachSmall(9, func(s string) { checkCheck(t, s, api.OK) })
	eachLarge(func(s string) { checkCheck(t, s, api.OK) })
}

func TestCheckEachSmallString(t *testing.T) {
	check := func(s string) {
		want := api.OK
		if !isBalanced(s) {
			want = api.ErrForm
		}
		checkCheck(t, s, want)
	}
	eachString("()", 14, check)
	eachString("()a", 8, check)
}

func TestCheckTooEarlyAndNotClosed(t *testing.T) {
	eachLarge(func(s string) {
		if len(s) > mostBytes-2 {
			return
		}
		for _, bad := range []string{s + ")(", ")" + s + "(", ")(" + s, s + "((", "))" + s, s + "(", s + ")", "(" + s,
			")" + s, s[1:], s[:len(s)-1]} {
			checkNone(t, bad, api.ErrForm)
		}
	})
}

func TestCheckWithOneParenthesisChanged(t *testing.T) {
	// Another parenthesis makes the numbers of '(' and ')' differ; the longest strings are among them.
	for _, n := range []int{1, 2, 50, api.MaxNodes} {
		for _, s := range shapes(n) {
			for i := range len(s) {
				other := ")"
				if s[i] == ')' {
					other = "("
				}
				checkCheck(t, s[:i]+other+s[i+1:], api.ErrForm)
			}
		}
	}
}

func TestCheckOtherBytes(t *testing.T) {
	for b := range 256 {
		if b == '(' || b == ')' {
			continue
		}
		other := string([]byte{byte(b)})
		for _, s := range []string{"", "()", "(())()", deep(api.MaxNodes - 1), wide(api.MaxNodes - 1)} {
			for _, i := range []int{0, 1, len(s) / 2, len(s) - 1, len(s)} {
				if i >= 0 && i <= len(s) {
					checkCheck(t, s[:i]+other+s[i:], api.ErrForm)
					checkCheck(t, s[:i]+other+other+s[i:], api.ErrForm)
				}
			}
		}
		for _, s := range []string{"()", deep(api.MaxNodes), wide(api.MaxNodes)} {
			for _, i := range []int{0, len(s) / 2, len(s) - 1} {
				checkCheck(t, s[:i]+other+s[i+1:], api.ErrForm)
			}
		}
	}
}

func TestOtherBytes(t *testing.T) {
	for _, other := range []string{"a", " ", "\x00", "\n", "[", "'", "*", "\x80", "\xff", "é", "（", "）", "\U0001F600"} {
		for _, s := range []string{other, other + "()", "()" + other, "(" + other + ")", "()" + other + "()",
			"((" + other + "))", ")" + other, other + "(", other + other} {
			checkNone(t, s, api.ErrForm)
		}
	}
	// The low byte of each of these runes is that of a parenthesis.
	checkNone(t, string([]rune{0x128, 0x129}), api.ErrForm)
	checkNone(t, "("+string(rune(0x129)), api.ErrForm)
}

func TestTooLong(t *testing.T) {
	for _, s := range []string{
		"(" + wide(api.MaxNodes),
		wide(api.MaxNodes) + ")",
		deep(api.MaxNodes + 1),
		wide(api.MaxNodes + 1),
		mixed(api.MaxNodes+1, 5),
		wide(api.MaxNodes + 2),
		deep(1 << 16),
		strings.Repeat("(", mostBytes+1),
		strings.Repeat(")", mostBytes+1),
		strings.Repeat("a", mostBytes+1),
		strings.Repeat("\xff", mostBytes+2),
		"a" + wide(api.MaxNodes),
		wide(api.MaxNodes) + "é",
		// Fewer runes than the limit, but more bytes.
		strings.Repeat("é", api.MaxNodes+1),
	} {
		checkNone(t, s, api.ErrSize)
	}
}

func TestLongestNotBalanced(t *testing.T) {
	for _, s := range []string{
		strings.Repeat("(", mostBytes),
		strings.Repeat(")", mostBytes),
		strings.Repeat(")(", api.MaxNodes),
		strings.Repeat("a", mostBytes),
		strings.Repeat("é", api.MaxNodes),
		wide(api.MaxNodes-1) + ")(",
		")(" + wide(api.MaxNodes-1),
		deep(api.MaxNodes-1) + "((",
		wide(api.MaxNodes-1) + "(",
		wide(api.MaxNodes-1) + "(a",
		"(a" + wide(api.MaxNodes-1),
	} {
		checkNone(t, s, api.ErrForm)
	}
}

func TestFormOfEachSmallString(t *testing.T) {
	check := func(s string) {
		if !isBalanced(s) {
			checkNone(t, s, api.ErrForm)
		}
	}
	eachString("()", 10, check)
	eachString("()a", 5, check)
}

func TestMatch(t *testing.T) {
	checkMatch(t, "(())", 1, 2, api.OK)
	checkMatch(t, "(())", 0, 3, api.OK)
	checkMatch(t, "(())", 2, 1, api.OK)
	checkMatch(t, "(())", 3, 0, api.OK)
	checkMatch(t, "()", 0, 1, api.OK)
	checkMatch(t, "()", 1, 0, api.OK)
	checkMatch(t, "()()", 2, 3, api.OK)
	checkMatch(t, "(()(()))()", 0, 7, api.OK)
	checkMatch(t, "(()(()))()", 6, 3, api.OK)
	checkMatch(t, deep(api.MaxNodes), 0, mostBytes-1, api.OK)
	checkMatch(t, deep(api.MaxNodes), mostBytes-1, 0, api.OK)
	checkMatch(t, wide(api.MaxNodes), mostBytes-1, mostBytes-2, api.OK)
}

func TestEnclose(t *testing.T) {
	checkEnclose(t, "(())", 2, 0, api.OK)
	checkEnclose(t, "(())", 1, 0, api.OK)
	checkEnclose(t, "(())", 0, 0, api.ErrNone)
	checkEnclose(t, "(())", 3, 0, api.ErrNone)
	checkEnclose(t, "()", 0, 0, api.ErrNone)
	checkEnclose(t, "()", 1, 0, api.ErrNone)
	checkEnclose(t, "()(())", 3, 2, api.OK)
	checkEnclose(t, "(()(()))()", 5, 3, api.OK)
	checkEnclose(t, "(()(()))()", 6, 0, api.OK)
	checkEnclose(t, "(()(()))()", 8, 0, api.ErrNone)
	checkEnclose(t, "(()(()))()", 9, 0, api.ErrNone)
	checkEnclose(t, deep(api.MaxNodes), api.MaxNodes, api.MaxNodes-2, api.OK)
	checkEnclose(t, deep(api.MaxNodes), mostBytes-2, 0, api.OK)
	checkEnclose(t, wide(api.MaxNodes), mostBytes-1, 0, api.ErrNone)
}

func TestEachIndex(t *testing.T) {
	eachSmall(8, func(s string) { checkIndices(t, s) })
	eachLarge(func(s string) { checkIndices(t, s) })
}

func TestMatchIsItsOwnInverse(t *testing.T) {
	eachLarge(func(s string) {
		for i := range len(s) {
			j, _ := paren.Match(s, i)
			checkMatch(t, s, j, i, api.OK)
		}
	})
}

func TestIndexRange(t *testing.T) {
	check := func(s string) {
		for _, i := range append([]int{-1, len(s), len(s) + 1}, extremes...) {
			checkMatch(t, s, i, 0, api.ErrRange)
			checkEnclose(t, s, i, 0, api.ErrRange)
		}
	}
	eachSmall(5, check)
	eachLarge(check)
}

func TestIndexOfTheEmptyString(t *testing.T) {
	for i := -3; i <= 3; i++ {
		checkMatch(t, "", i, 0, api.ErrRange)
		checkEnclose(t, "", i, 0, api.ErrRange)
	}
}

func TestTree(t *testing.T) {
	checkTree(t, "(()())", []int{-1, 0, 0}, api.OK)
	checkTree(t, "", nil, api.OK)
	checkTree(t, "()", []int{-1}, api.OK)
	checkTree(t, "()()", []int{-1, -1}, api.OK)
	checkTree(t, "(())", []int{-1, 0}, api.OK)
	checkTree(t, "(()(()))()", []int{-1, 0, 0, 2, -1}, api.OK)
	checkTree(t, "()((()))(())", []int{-1, -1, 1, 2, -1, 4}, api.OK)
}

func TestEachForest(t *testing.T) {
	eachSmall(8, func(s string) { checkForest(t, s) })
	eachLarge(func(s string) { checkForest(t, s) })
}

func TestText(t *testing.T) {
	checkText(t, []int{-1, 0, 0}, "(()())", api.OK)
	checkText(t, nil, "", api.OK)
	checkText(t, []int{}, "", api.OK)
	checkText(t, []int{-1}, "()", api.OK)
	checkText(t, []int{-1, -1}, "()()", api.OK)
	checkText(t, []int{-1, 0}, "(())", api.OK)
	checkText(t, []int{-1, 0, 0, 2, -1}, "(()(()))()", api.OK)
	checkText(t, []int{-1, 0, 1, 0, 3, -1, 5}, "((())(()))(())", api.OK)
}

func TestTextNone(t *testing.T) {
	for _, parents := range [][]int{{0}, {1}, {-2}, {-1, 1}, {-1, 2}, {-1, -2}, {0, -1}, {1, -1}, {-1, -1, 0},
		{-1, 0, -1, 0}, {-1, 0, -1, 1}, {-1, 0, 0, 1}, {-1, 0, 1, 0, 2}, {-1, 2, 0}, {1, 0}, {-1, 0, -2}} {
		checkText(t, parents, "", api.ErrForm)
	}
}

func TestTextOfEachSmallList(t *testing.T) {
	check := func(parents []int) {
		if s, ok := textOf(parents); ok {
			checkText(t, parents, s, api.OK)
		} else {
			checkText(t, parents, "", api.ErrForm)
		}
	}
	for n := range 6 {
		eachList(n, -2, n, check)
	}
	eachList(6, -1, 5, check)
}

func TestTextWithOneParentChanged(t *testing.T) {
	for _, n := range []int{1, 2, 3, 17} {
		for _, s := range shapes(n) {
			parents := treeOf(s)
			for i, right := range parents {
				for parent := -3; parent <= n+2; parent++ {
					parents[i] = parent
					if s, ok := textOf(parents); ok {
						checkText(t, parents, s, api.OK)
					} else {
						checkText(t, parents, "", api.ErrForm)
					}
				}
				parents[i] = right
			}
		}
	}
}

func TestTextParentIsNoEarlierNode(t *testing.T) {
	for _, n := range []int{1, 2, 64, api.MaxNodes} {
		for _, s := range shapes(n) {
			parents := treeOf(s)
			for i, right := range parents {
				for _, parent := range append([]int{i, i + 1, n - 1, n, n + 1}, extremes...) {
					if parent >= i || parent < -1 {
						parents[i] = parent
						checkText(t, parents, "", api.ErrForm)
					}
				}
				parents[i] = right
			}
		}
	}
}

func TestTextParentIsClosed(t *testing.T) {
	// Each node but the last two is closed when the last one comes.
	parents := treeOf(wide(api.MaxNodes))
	for parent := range api.MaxNodes - 2 {
		parents[api.MaxNodes-1] = parent
		checkText(t, parents, "", api.ErrForm)
	}
	parents = treeOf(deep(api.MaxNodes))
	parents[api.MaxNodes-2] = -1
	for parent := range api.MaxNodes - 2 {
		parents[api.MaxNodes-1] = parent
		checkText(t, parents, "", api.ErrForm)
	}
	parents[api.MaxNodes-1] = -1
	checkText(t, parents, deep(api.MaxNodes-2)+"()()", api.OK)
}

func TestTextTooManyNodes(t *testing.T) {
	for _, n := range []int{api.MaxNodes + 1, api.MaxNodes + 2, 1 << 16} {
		flat := slices.Repeat([]int{-1}, n)
		chain := make([]int, n)
		for i := range chain {
			chain[i] = i - 1
		}
		for _, parents := range [][]int{flat, chain, make([]int, n), slices.Repeat([]int{math.MinInt}, n),
			slices.Repeat([]int{math.MaxInt}, n)} {
			if s, err := paren.Text(parents); err != api.ErrSize || s != "" {
				t.Errorf("Text of %d nodes: %q, %d; want \"\", %d", n, s, err, api.ErrSize)
			}
		}
		if s, err := paren.Text(flat[:api.MaxNodes]); err != api.OK || s != wide(api.MaxNodes) {
			t.Errorf("Text of MaxNodes roots: %q, %d", s, err)
		}
		if s, err := paren.Text(chain[:api.MaxNodes]); err != api.OK || s != deep(api.MaxNodes) {
			t.Errorf("Text of a chain of MaxNodes nodes: %q, %d", s, err)
		}
	}
}

func TestParentsAreNotChanged(t *testing.T) {
	whole := treeOf(mixed(api.MaxNodes, 6))
	whole = append(whole, 7, -7, math.MaxInt)
	before := slices.Clone(whole)
	for n := range whole {
		paren.Text(whole[:n])
	}
	paren.Text(whole)
	if !slices.Equal(whole, before) {
		t.Errorf("the parents changed: %v; want %v", whole, before)
	}
}

func TestTextDoesNotDependOnSpareCapacity(t *testing.T) {
	whole := []int{-1, 0, 0, 2, -1, 77, math.MinInt}
	checkText(t, whole[:5], "(()(()))()", api.OK)
	checkText(t, whole[:3:3], "(()())", api.OK)
	checkText(t, whole[:0], "", api.OK)
}

func TestTreesShareNothing(t *testing.T) {
	var trees [][]int
	var texts []string
	for _, s := range append(shapes(64), "", "()", deep(api.MaxNodes), deep(api.MaxNodes)) {
		parents, _ := paren.Tree(s)
		trees = append(trees, parents)
		texts = append(texts, s)
	}
	for mark, parents := range trees {
		parents = parents[:cap(parents)]
		for i := range parents {
			parents[i] = 1000 + mark
		}
	}
	for mark, parents := range trees {
		for _, x := range parents[:cap(parents)] {
			if x != 1000+mark {
				t.Fatalf("the trees %d and %d share memory", mark, x-1000)
			}
		}
		checkTree(t, texts[mark], treeOf(texts[mark]), api.OK)
	}
}

func TestTextsAreNotChanged(t *testing.T) {
	parents := []int{-1, 0, 0}
	s, _ := paren.Text(parents)
	clear(parents)
	paren.Text([]int{-1, -1, -1})
	if s != "(()())" {
		t.Errorf("the text changed to %q", s)
	}
}
