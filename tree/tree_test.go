package tree_test

import (
	"bytes"
	"crypto/hmac"
	"crypto/sha256"
	"encoding/hex"
	"iter"
	"math"
	"math/rand/v2"
	"slices"
	"testing"

	"citadel/api"
	"citadel/tree"
)

// The chapter's words, made plainly, over another make of tags, without a call of the program.

func plainTag(key []byte, parts ...[]byte) api.Sum {
	h := hmac.New(sha256.New, key)
	h.Write(slices.Concat(parts...))
	return api.Sum(h.Sum(nil))
}

// lowByte is a number modulo 256, never below 0.
func lowByte(n int) byte {
	n %= 256
	if n < 0 {
		n += 256
	}
	return byte(n)
}

func plainLeaf(key []byte, block int, c api.Cell) api.Sum {
	return plainTag(key, []byte{1, lowByte(block)}, c[:])
}

func plainNode(key []byte, i int, left, right api.Sum) api.Sum {
	both := append(left[:], right[:]...)
	if bytes.Equal(both, make([]byte, 64)) {
		return api.Sum{}
	}
	return plainTag(key, []byte{2, lowByte(i)}, both)
}

// plainOver is what a number of the tree holds over these leaves.
func plainOver(key []byte, leaves []api.Sum, i int) api.Sum {
	if i >= 16 {
		return leaves[i-16]
	}
	return plainNode(key, i, plainOver(key, leaves, 2*i), plainOver(key, leaves, 2*i+1))
}

func plainBuild(key []byte, leaves []api.Sum) []api.Sum {
	all := []api.Sum{{}}
	for i := 1; i < 32; i++ {
		all = append(all, plainOver(key, leaves, i))
	}
	return all
}

// plainUpdate is a tree with another leaf; its nodes are found by their levels.
func plainUpdate(key []byte, old []api.Sum, block int, leaf api.Sum) []api.Sum {
	all := slices.Clone(old)
	all[16+block] = leaf
	for _, i := range []int{8 + block/2, 4 + block/4, 2 + block/8, 1} {
		all[i] = plainNode(key, i, all[2*i], all[2*i+1])
	}
	return all
}

// plainVerify is whether a leaf comes to a root.
func plainVerify(key []byte, all []api.Sum, root api.Sum, block int, leaf api.Sum) bool {
	if len(all) != 32 || block < 0 || block > 15 {
		return false
	}
	return plainUpdate(key, all, block, leaf)[1] == root
}

func plainPath(block int) []int {
	if block < 0 || block > 15 {
		return nil
	}
	return []int{16 + block, 8 + block/2, 4 + block/4, 2 + block/8, 1}
}

// beside is the numbers on the other side of a block's path, from the leaf's on.
func beside(block int) []int {
	var numbers []int
	for _, i := range plainPath(block)[:4] {
		if i%2 == 0 {
			numbers = append(numbers, i+1)
			continue
		}
		numbers = append(numbers, i-1)
	}
	return numbers
}

var someKey = []byte("a unit's mark, of some bytes")

func dice() *rand.Rand { return rand.New(rand.NewPCG(11, 1)) }

func anyBytes(r *rand.Rand, n int) []byte {
	b := make([]byte, n)
	for i := range b {
		b[i] = byte(r.Uint32())
	}
	return b
}

func anyCell(r *rand.Rand) api.Cell { return api.Cell(anyBytes(r, 128)) }

func anySum(r *rand.Rand) api.Sum { return api.Sum(anyBytes(r, 32)) }

func anySums(r *rand.Rand, many int) []api.Sum {
	var sums []api.Sum
	for range many {
		sums = append(sums, anySum(r))
	}
	return sums
}

// someLeaves is sixteen leaves, each noughts as often as not.
func someLeaves(r *rand.Rand) []api.Sum {
	leaves := make([]api.Sum, 16)
	for i := range leaves {
		if r.IntN(2) == 0 {
			leaves[i] = anySum(r)
		}
	}
	return leaves
}

// rowsOfLeaves is leaves of many kinds: all, none, one alone, all but one, some.
func rowsOfLeaves(r *rand.Rand) [][]api.Sum {
	same := slices.Repeat([]api.Sum{anySum(r)}, 16)
	rows := [][]api.Sum{make([]api.Sum, 16), anySums(r, 16), anySums(r, 16), same}
	for block := range 16 {
		one, butOne := make([]api.Sum, 16), anySums(r, 16)
		one[block], butOne[block] = anySum(r), api.Sum{}
		rows = append(rows, one, butOne, someLeaves(r))
	}
	return rows
}

// someKeys are keys of many lengths, none and no bytes among them.
func someKeys(r *rand.Rand) [][]byte {
	keys := [][]byte{nil, {}, {0}, {1}, someKey}
	for _, n := range []int{31, 32, 33, 63, 64, 65, 128, 1000} {
		keys = append(keys, anyBytes(r, n))
	}
	return keys
}

// noBlocks are numbers of blocks that there aren't; such as are blocks' modulo 16, 32 or 256 are among them.
var noBlocks = []int{-1, 16, -2, 17, -15, -16, -17, 31, 32, 33, 255, 256, 257, 261, -251, -256, 1 << 31, 1 << 32, 1<<32 + 5, 1 << 62, math.MaxInt, math.MaxInt - 15, math.MinInt, math.MinInt + 5, math.MinInt32}

// otherSizes are how many tags no tree has.
var otherSizes = []int{0, 1, 15, 16, 17, 30, 31, 33, 34, 63, 64, 256 + 32}

// anyNumbers are numbers below 0, within a byte, and above, at the edges.
func anyNumbers(r *rand.Rand) []int {
	numbers := []int{math.MinInt, math.MinInt + 1, math.MaxInt, math.MaxInt - 1, math.MinInt32, math.MaxInt32}
	for n := -3; n < 300; n++ {
		numbers = append(numbers, n)
	}
	for _, n := range []int{-65536, -512, -257, -256, -255, -129, -128, -127, -16, 511, 512, 513, 1 << 16, 1 << 31, 1 << 32, 1<<32 + 5, 1 << 62, int(r.Uint64()), int(r.Uint64())} {
		numbers = append(numbers, n)
	}
	return numbers
}

// wantSame tells where a list of tags isn't the one that is wanted.
func wantSame(t *testing.T, what string, got, want []api.Sum) {
	t.Helper()
	if slices.Equal(got, want) {
		return
	}
	for i := range min(len(got), len(want)) {
		if got[i] != want[i] {
			t.Fatalf("%s: number %d is %x, want %x", what, i, got[i], want[i])
		}
	}
	t.Fatalf("%s: %d tags, want %d", what, len(got), len(want))
}

func wantBuild(t *testing.T, key []byte, leaves []api.Sum) []api.Sum {
	t.Helper()
	built, err := tree.Build(key, leaves)
	if err != nil {
		t.Fatalf("Build: %v", err)
	}
	wantSame(t, "Build", built, plainBuild(key, leaves))
	return built
}

func wantUpdate(t *testing.T, key []byte, old []api.Sum, block int, leaf api.Sum) []api.Sum {
	t.Helper()
	updated, err := tree.Update(key, old, block, leaf)
	if err != nil {
		t.Fatalf("Update of block %d: %v", block, err)
	}
	wantSame(t, "Update", updated, plainUpdate(key, old, block, leaf))
	return updated
}

// wantVerify tells where Verify doesn't answer as wanted, or the chapter's words don't.
func wantVerify(t *testing.T, key []byte, all []api.Sum, root api.Sum, block int, leaf api.Sum, want bool) {
	t.Helper()
	if got := tree.Verify(key, all, root, block, leaf); got != want {
		t.Fatalf("Verify, %d tags, block %d: %v", len(all), block, got)
	}
	if plainVerify(key, all, root, block, leaf) != want {
		t.Fatalf("%d tags, block %d: by the chapter's words %v", len(all), block, !want)
	}
}

// wantRefused tells where Update doesn't refuse with this error and nothing beside it, or Verify doesn't.
func wantRefused(t *testing.T, all []api.Sum, block int, want error) {
	t.Helper()
	for _, leaf := range []api.Sum{{}, {1}} {
		if updated, err := tree.Update(someKey, all, block, leaf); updated != nil || err != want {
			t.Errorf("Update, %d tags, block %d: %d tags, %v, want %v", len(all), block, len(updated), err, want)
		}
		roots := []api.Sum{{}, leaf}
		if len(all) > 1 {
			roots = append(roots, all[0], all[1])
		}
		for _, root := range roots {
			if tree.Verify(someKey, all, root, block, leaf) {
				t.Errorf("Verify, %d tags, block %d: true", len(all), block)
			}
		}
	}
}

// take is the first so many numbers of a path, by a loop that is left.
func take(path iter.Seq[int], most int) []int {
	var numbers []int
	for i := range path {
		numbers = append(numbers, i)
		if len(numbers) == most {
			break
		}
	}
	return numbers
}

// P11.1: the chapter's examples.
func TestExamples(t *testing.T) {
	for _, key := range someKeys(dice()) {
		built, err := tree.Build(key, make([]api.Sum, 16))
		if err != nil || !slices.Equal(built, make([]api.Sum, 32)) {
			t.Errorf("Build of noughts: %x, %v", built, err)
		}
	}
	if path := take(tree.Path(5), 99); !slices.Equal(path, []int{21, 10, 5, 2, 1}) {
		t.Errorf("Path(5): %v", path)
	}
}

// P11.1: a leaf, a node and a root, written out as digits: tags that were made outside of the program.
func TestTagsWrittenOut(t *testing.T) {
	leaf := tree.Leaf([]byte("key"), 5, api.Cell{1, 2, 127: 3})
	node := tree.Node([]byte("key"), 10, api.Sum{}, leaf)
	one := make([]api.Sum, 16)
	one[5] = leaf
	built, err := tree.Build([]byte("key"), one)
	if err != nil {
		t.Fatal(err)
	}
	for _, x := range []struct {
		what string
		tag  api.Sum
		want string
	}{
		{"leaf", leaf, "0118494d96a659a77ad1420b27dd14fd4232b2a98f7f8f8fad15b14574675abc"},
		{"node", node, "302d7fea2d50cb9e384723c1659dfb70d66f3ebc4ed3751ee6b394b835b472d0"},
		{"root", built[1], "9ff5833ac672c30e35f677a13650daf7c736592a5a1b2c41ae04edca886252d3"},
	} {
		if hex.EncodeToString(x.tag[:]) != x.want {
			t.Errorf("%s: %x, want %s", x.what, x.tag, x.want)
		}
	}
}

// P11.1: leaves of all blocks, and of numbers that count modulo 256, are tags of the bytes that the chapter names.
func TestLeaves(t *testing.T) {
	r := dice()
	cells := []api.Cell{{}, {1}, {127: 1}, anyCell(r)}
	for _, key := range someKeys(r) {
		for _, block := range anyNumbers(r) {
			for _, c := range cells {
				if leaf := tree.Leaf(key, block, c); leaf != plainLeaf(key, block, c) {
					t.Errorf("Leaf, block %d: %x, want %x", block, leaf, plainLeaf(key, block, c))
				}
			}
		}
	}
	for block := range 256 {
		c := anyCell(r)
		for _, by := range []int{256, -256, 512, 1 << 40, -1 << 40, math.MinInt} {
			if tree.Leaf(someKey, block, c) != tree.Leaf(someKey, block+by, c) {
				t.Errorf("Leaf, block %d and %d", block, block+by)
			}
		}
	}
}

// P11.1: a leaf hangs on each bit of the bytes, and on the block; that of noughts isn't noughts.
func TestLeafHangsOnAll(t *testing.T) {
	c := anyCell(dice())
	leaf := tree.Leaf(someKey, 3, c)
	for bit := range 8 * len(c) {
		other := c
		other[bit/8] ^= 1 << (bit % 8)
		if tree.Leaf(someKey, 3, other) == leaf {
			t.Errorf("bit %d", bit)
		}
	}
	seen := map[api.Sum]int{}
	for block := range 256 {
		leaf := tree.Leaf(someKey, block, api.Cell{})
		if at, ok := seen[leaf]; ok || leaf == (api.Sum{}) {
			t.Errorf("block %d: as %d, %x", block, at, leaf)
		}
		seen[leaf] = block
	}
}

// P11.1: nodes of all numbers, also of such as count modulo 256, are tags of the bytes that the chapter names.
func TestNodes(t *testing.T) {
	r := dice()
	left, right := anySum(r), anySum(r)
	for _, key := range someKeys(r) {
		for _, i := range anyNumbers(r) {
			for _, children := range [][2]api.Sum{{left, right}, {right, left}, {left, left}, {left, {}}, {{}, right}, {{31: 1}, {}}, {{}, {1}}} {
				node := tree.Node(key, i, children[0], children[1])
				if node != plainTag(key, []byte{2, lowByte(i)}, children[0][:], children[1][:]) {
					t.Errorf("Node %d: %x", i, node)
				}
			}
			if node := tree.Node(key, i, api.Sum{}, api.Sum{}); node != (api.Sum{}) {
				t.Errorf("Node %d over noughts: %x", i, node)
			}
		}
	}
	for i := range 256 {
		for _, by := range []int{256, -256, 512, 1 << 40, -1 << 40, math.MinInt} {
			if tree.Node(someKey, i, left, right) != tree.Node(someKey, i+by, left, right) {
				t.Errorf("Node %d and %d", i, i+by)
			}
		}
	}
}

// P11.1: noughts on one side alone, and any one bit on either side, make a tag that isn't noughts.
func TestNodeOverNoughtsButOneBit(t *testing.T) {
	for bit := range 256 {
		var child api.Sum
		child[bit/8] = 1 << (bit % 8)
		left, right := tree.Node(someKey, 7, child, api.Sum{}), tree.Node(someKey, 7, api.Sum{}, child)
		if left != plainNode(someKey, 7, child, api.Sum{}) || right != plainNode(someKey, 7, api.Sum{}, child) {
			t.Errorf("bit %d: %x, %x", bit, left, right)
		}
		if left == (api.Sum{}) || right == (api.Sum{}) || left == right {
			t.Errorf("bit %d: %x, %x", bit, left, right)
		}
	}
}

// P11.1: a leaf is no node, whatever its block's bytes: their texts begin otherwise.
func TestLeavesAreNoNodes(t *testing.T) {
	r := dice()
	for range 100 {
		left, right := anySum(r), anySum(r)
		var c api.Cell
		copy(c[:], append(left[:], right[:]...))
		for i := range 32 {
			if tree.Leaf(someKey, i, c) == tree.Node(someKey, i, left, right) {
				t.Errorf("number %d", i)
			}
		}
	}
}

// P11.1: paths of all blocks, whole, left early at each number, and run again.
func TestPaths(t *testing.T) {
	for block := range 16 {
		path, want := tree.Path(block), plainPath(block)
		for most := 1; most < 8; most++ {
			if got := take(path, most); !slices.Equal(got, want[:min(most, 5)]) {
				t.Errorf("Path(%d), left behind %d: %v", block, most, got)
			}
			if got := take(path, 99); !slices.Equal(got, want) {
				t.Errorf("Path(%d), again: %v, want %v", block, got, want)
			}
		}
	}
	for block, want := range map[int][]int{0: {16, 8, 4, 2, 1}, 1: {17, 8, 4, 2, 1}, 7: {23, 11, 5, 2, 1}, 8: {24, 12, 6, 3, 1}, 15: {31, 15, 7, 3, 1}} {
		if got := take(tree.Path(block), 99); !slices.Equal(got, want) {
			t.Errorf("Path(%d): %v, want %v", block, got, want)
		}
	}
}

// P11.1: one path runs within itself and beside another one.
func TestPathWithinPath(t *testing.T) {
	path, other := tree.Path(9), tree.Path(6)
	for i := range path {
		for k := range path {
			if k == 3 {
				break
			}
		}
		if got := take(path, 99); !slices.Equal(got, plainPath(9)) {
			t.Errorf("at %d: %v", i, got)
		}
		if got := take(other, 99); !slices.Equal(got, plainPath(6)) {
			t.Errorf("the other one, at %d: %v", i, got)
		}
	}
}

// P11.1: a block that there isn't has a path without numbers, which can be run all the same.
func TestNoPath(t *testing.T) {
	for _, block := range noBlocks {
		path := tree.Path(block)
		if path == nil {
			t.Fatalf("Path(%d): nil", block)
		}
		for range 2 {
			if got := take(path, 99); got != nil {
				t.Errorf("Path(%d): %v", block, got)
			}
		}
	}
}

// P11.1: trees over leaves of many kinds, with keys of many lengths: number 0 is noughts, the leaves stand in order, each node is over its children.
func TestBuild(t *testing.T) {
	r := dice()
	for _, key := range someKeys(r) {
		for _, leaves := range rowsOfLeaves(r) {
			built := wantBuild(t, key, leaves)
			if built[0] != (api.Sum{}) || !slices.Equal(built[16:], leaves) {
				t.Fatal("number 0, or the leaves")
			}
			for i := 1; i < 16; i++ {
				if built[i] != tree.Node(key, i, built[2*i], built[2*i+1]) {
					t.Errorf("node %d isn't over its children", i)
				}
			}
		}
	}
}

// P11.1: of noughts but one leaf the path alone holds tags.
func TestBuildOfOneLeaf(t *testing.T) {
	r := dice()
	for block := range 16 {
		one := make([]api.Sum, 16)
		one[block] = anySum(r)
		for i, tag := range wantBuild(t, someKey, one) {
			if on := slices.Contains(plainPath(block), i); on == (tag == api.Sum{}) {
				t.Errorf("block %d: number %d is %x", block, i, tag)
			}
		}
	}
}

// P11.1: other than sixteen leaves are refused, with nothing beside the error.
func TestBuildOfOtherThanSixteen(t *testing.T) {
	r := dice()
	for _, many := range []int{0, 1, 2, 8, 14, 15, 17, 18, 31, 32, 33, 256 + 16} {
		for _, leaves := range [][]api.Sum{make([]api.Sum, many), anySums(r, many), make([]api.Sum, many, many+40)} {
			if built, err := tree.Build(someKey, leaves); built != nil || err != api.ErrForm {
				t.Errorf("%d leaves: %d tags, %v", many, len(built), err)
			}
		}
	}
	if built, err := tree.Build(nil, nil); built != nil || err != api.ErrForm {
		t.Errorf("nil leaves: %d tags, %v", len(built), err)
	}
}

// P11.1: a key of no bytes and no key at all are the same.
func TestNoKey(t *testing.T) {
	r := dice()
	leaves, c := someLeaves(r), anyCell(r)
	built := wantBuild(t, nil, leaves)
	for i, none := range [][]byte{nil, {}, make([]byte, 0, 64)} {
		wantSame(t, "Build without a key", wantBuild(t, none, leaves), built)
		if tree.Leaf(none, 3, c) != plainLeaf(nil, 3, c) || tree.Node(none, 3, leaves[0], anySum(r)) == (api.Sum{}) {
			t.Errorf("%d: Leaf or Node", i)
		}
		for block := range 16 {
			wantVerify(t, none, built, built[1], block, leaves[block], true)
			wantVerify(t, none, built, built[1], block, anySum(r), false)
			wantUpdate(t, none, built, block, anySum(r))
		}
	}
}

// P11.1: trees of other than 32 tags are refused, nil ones among them, in Update, Verify and Sectors.
func TestTreesOfOtherThan32(t *testing.T) {
	r := dice()
	for _, many := range otherSizes {
		for _, all := range [][]api.Sum{make([]api.Sum, many), anySums(r, many), make([]api.Sum, many, many+64)} {
			for block := range 16 {
				wantRefused(t, all, block, api.ErrForm)
			}
			if cells, err := tree.Sectors(all); cells != nil || err != api.ErrForm {
				t.Errorf("Sectors of %d tags: %d, %v", many, len(cells), err)
			}
		}
	}
	wantRefused(t, nil, 0, api.ErrForm)
	if cells, err := tree.Sectors(nil); cells != nil || err != api.ErrForm {
		t.Errorf("Sectors of nil: %d, %v", len(cells), err)
	}
}

// P11.1: blocks that there aren't are refused; where the tree is refused, too, that is told.
func TestNoSuchBlocks(t *testing.T) {
	r := dice()
	for _, block := range noBlocks {
		wantRefused(t, make([]api.Sum, 32), block, api.ErrRange)
		wantRefused(t, anySums(r, 32), block, api.ErrRange)
		wantRefused(t, plainBuild(someKey, someLeaves(r)), block, api.ErrRange)
		for _, many := range otherSizes {
			wantRefused(t, anySums(r, many), block, api.ErrForm)
			wantRefused(t, make([]api.Sum, many), block, api.ErrForm)
		}
		wantRefused(t, nil, block, api.ErrForm)
	}
}

// P11.1: with a block that there isn't nothing is verified, whatever stands for its leaf and its root in the tree.
func TestNoSuchBlocksAreNotVerified(t *testing.T) {
	r := dice()
	built := plainBuild(someKey, anySums(r, 16))
	for _, block := range noBlocks {
		for _, root := range built {
			for _, leaf := range built {
				if tree.Verify(someKey, built, root, block, leaf) {
					t.Errorf("block %d", block)
				}
			}
		}
	}
}

// P11.1: an update puts the leaf in its place and makes the path's nodes anew; all else stays.
func TestUpdateAlongThePath(t *testing.T) {
	r := dice()
	for _, key := range someKeys(r) {
		for _, leaves := range [][]api.Sum{make([]api.Sum, 16), anySums(r, 16), someLeaves(r)} {
			built := plainBuild(key, leaves)
			for block := range 16 {
				leaf := anySum(r)
				updated := wantUpdate(t, key, built, block, leaf)
				for i := range built {
					if slices.Contains(plainPath(block), i) == (updated[i] == built[i]) {
						t.Errorf("block %d: number %d", block, i)
					}
				}
				if updated[16+block] != leaf {
					t.Errorf("block %d: its leaf is %x", block, updated[16+block])
				}
			}
		}
	}
}

// P11.1: of a tree whose number 0 isn't noughts, or whose nodes aren't those of its leaves, the path alone is made anew, from the children that are there.
func TestUpdateOfAnyTags(t *testing.T) {
	r := dice()
	for range 20 {
		tags := anySums(r, 32)
		for block := range 16 {
			updated := wantUpdate(t, someKey, tags, block, anySum(r))
			wantUpdate(t, someKey, tags, block, api.Sum{})
			wantUpdate(t, someKey, tags, block, tags[16+block])
			if updated[0] != tags[0] {
				t.Errorf("block %d: number 0 is %x", block, updated[0])
			}
		}
	}
	for number := range 32 {
		built := plainBuild(someKey, someLeaves(r))
		built[number] = anySum(r)
		for block := range 16 {
			wantUpdate(t, someKey, built, block, anySum(r))
			wantUpdate(t, someKey, built, block, built[16+block])
		}
	}
}

// P11.1: the path's own tags don't matter, neither for what is updated nor for what is verified; the root that is handed in does, not the tree's.
func TestPathsOwnTagsDontMatter(t *testing.T) {
	r := dice()
	leaves := anySums(r, 16)
	built := plainBuild(someKey, leaves)
	for block := range 16 {
		for _, i := range append(plainPath(block), 0) {
			for _, other := range []api.Sum{{}, anySum(r)} {
				bad := slices.Clone(built)
				bad[i] = other
				wantVerify(t, someKey, bad, built[1], block, leaves[block], true)
				wantVerify(t, someKey, bad, built[1], block, anySum(r), false)
				if i == 1 {
					wantVerify(t, someKey, bad, bad[1], block, leaves[block], false)
				}
				updated := wantUpdate(t, someKey, bad, block, leaves[block])
				if i != 0 {
					wantSame(t, "mended", updated, built)
				}
			}
		}
	}
}

// P11.1: what Verify answers is whether the tree of Update has this root, for any tags.
func TestVerifyOfAnyTags(t *testing.T) {
	r := dice()
	for range 50 {
		tags := anySums(r, 32)
		for block := range 16 {
			for _, leaf := range []api.Sum{{}, tags[16+block], anySum(r)} {
				root := plainUpdate(someKey, tags, block, leaf)[1]
				wantVerify(t, someKey, tags, root, block, leaf, true)
				wantVerify(t, someKey, tags, tags[1], block, leaf, false)
				wantVerify(t, someKey, tags, api.Sum{}, block, leaf, false)
			}
		}
	}
}

// plainSectors is tags one behind the other, cut into sectors.
func plainSectors(all []api.Sum) []api.Cell {
	var joined []byte
	for _, tag := range all {
		joined = append(joined, tag[:]...)
	}
	var cells []api.Cell
	for piece := range slices.Chunk(joined, 128) {
		cells = append(cells, api.Cell(piece))
	}
	return cells
}

// P11.1: sectors are the tags one behind the other, and the tree of these sectors is the same again, number 0 included.
func TestSectorsAndTags(t *testing.T) {
	r := dice()
	for _, all := range [][]api.Sum{make([]api.Sum, 32), anySums(r, 32), anySums(r, 32), plainBuild(someKey, someLeaves(r)), plainBuild(nil, anySums(r, 16))} {
		cells, err := tree.Sectors(all)
		if len(cells) != 8 || err != nil || !slices.Equal(cells, plainSectors(all)) {
			t.Fatalf("Sectors: %d, %v", len(cells), err)
		}
		back, err := tree.Tags(cells)
		if err != nil {
			t.Fatal(err)
		}
		wantSame(t, "Tags", back, all)
	}
	for range 20 {
		var cells []api.Cell
		for range 8 {
			cells = append(cells, anyCell(r))
		}
		all, err := tree.Tags(cells)
		if len(all) != 32 || err != nil {
			t.Fatalf("Tags: %d, %v", len(all), err)
		}
		if again, err := tree.Sectors(all); err != nil || !slices.Equal(again, cells) {
			t.Errorf("Sectors of Tags: %d, %v", len(again), err)
		}
	}
}

// P11.1: each byte stands in its place.
func TestBytesInTheirPlaces(t *testing.T) {
	for at := range 1024 {
		all, cells := make([]api.Sum, 32), make([]api.Cell, 8)
		all[at/32][at%32], cells[at/128][at%128] = 0xa5, 0xa5
		if made, err := tree.Sectors(all); err != nil || !slices.Equal(made, cells) {
			t.Errorf("Sectors, byte %d: %v", at, err)
		}
		if made, err := tree.Tags(cells); err != nil || !slices.Equal(made, all) {
			t.Errorf("Tags, byte %d: %v", at, err)
		}
	}
}

// P11.1: other than eight sectors are refused, with nothing beside the error.
func TestTagsOfOtherThanEight(t *testing.T) {
	for _, many := range []int{0, 1, 2, 4, 6, 7, 9, 10, 16, 31, 32, 33, 256 + 8} {
		for _, cells := range [][]api.Cell{make([]api.Cell, many), make([]api.Cell, many, many+20)} {
			if all, err := tree.Tags(cells); all != nil || err != api.ErrForm {
				t.Errorf("%d sectors: %d tags, %v", many, len(all), err)
			}
		}
	}
	if all, err := tree.Tags(nil); all != nil || err != api.ErrForm {
		t.Errorf("nil: %d tags, %v", len(all), err)
	}
}

// P11.2: a tree that was built is verified in each block with its leaf, and with no other block's.
func TestBuiltIsVerified(t *testing.T) {
	r := dice()
	keys := someKeys(r)
	for i, leaves := range rowsOfLeaves(r) {
		key := keys[i%len(keys)]
		built, err := tree.Build(key, leaves)
		if err != nil {
			t.Fatal(err)
		}
		for block := range 16 {
			for other := range 16 {
				want := leaves[other] == leaves[block]
				if tree.Verify(key, built, built[1], block, leaves[other]) != want {
					t.Fatalf("block %d with the leaf of %d: not %v", block, other, want)
				}
			}
		}
	}
}

// P11.2: a tree of leaves of hidden blocks, some never written, is verified in each.
func TestTreeOfBlocks(t *testing.T) {
	r := dice()
	for range 30 {
		leaves := make([]api.Sum, 16)
		for block := range leaves {
			if r.IntN(3) > 0 {
				leaves[block] = tree.Leaf(someKey, block, anyCell(r))
			}
		}
		built := wantBuild(t, someKey, leaves)
		for block := range leaves {
			wantVerify(t, someKey, built, built[1], block, leaves[block], true)
			wantVerify(t, someKey, built, built[1], block, tree.Leaf(someKey, block, anyCell(r)), false)
		}
	}
}

// P11.2: a tree updated in any block is the one that is built of the other leaves.
func TestUpdatedIsBuilt(t *testing.T) {
	r := dice()
	keys := someKeys(r)
	for i, leaves := range rowsOfLeaves(r) {
		key := keys[i%len(keys)]
		built := wantBuild(t, key, leaves)
		for block := range 16 {
			for _, leaf := range []api.Sum{anySum(r), {}, leaves[block], leaves[(block+1)%16]} {
				other := slices.Clone(leaves)
				other[block] = leaf
				updated, err := tree.Update(key, built, block, leaf)
				if err != nil {
					t.Fatal(err)
				}
				wantSame(t, "updated", updated, wantBuild(t, key, other))
			}
		}
	}
}

// P11.2: a tree updated many times, in every block and in any order, noughts among the leaves, is the one that is built of the last ones, and each block of it is verified.
func TestUpdatedManyTimes(t *testing.T) {
	r := dice()
	for range 10 {
		leaves := someLeaves(r)
		updated := wantBuild(t, someKey, leaves)
		for range 3 {
			for _, block := range r.Perm(16) {
				leaves[block] = someLeaves(r)[0]
				updated = wantUpdate(t, someKey, updated, block, leaves[block])
				wantSame(t, "updated", updated, plainBuild(someKey, leaves))
				for other := range 16 {
					wantVerify(t, someKey, updated, updated[1], other, leaves[other], true)
				}
			}
		}
	}
}

// P11.2: from noughts, one leaf is put and made noughts again: noughts; so with all leaves, one behind the other.
func TestBackToNoughts(t *testing.T) {
	r := dice()
	noughts := make([]api.Sum, 32)
	for block := range 16 {
		updated := wantUpdate(t, someKey, noughts, block, anySum(r))
		wantSame(t, "the only leaf made noughts", wantUpdate(t, someKey, updated, block, api.Sum{}), noughts)
		wantVerify(t, someKey, noughts, api.Sum{}, block, api.Sum{}, true)
		wantVerify(t, someKey, noughts, api.Sum{}, block, anySum(r), false)
		wantVerify(t, someKey, noughts, anySum(r), block, api.Sum{}, false)
	}
	all := wantBuild(t, someKey, anySums(r, 16))
	for _, block := range r.Perm(16) {
		all = wantUpdate(t, someKey, all, block, api.Sum{})
	}
	wantSame(t, "all made noughts", all, noughts)
}

// P11.3: in each block of trees of many kinds, no other leaf is verified: one bit of it changed, noughts, any, or a tag that stands elsewhere in the tree.
func TestOtherLeavesAreRefused(t *testing.T) {
	r := dice()
	for _, leaves := range rowsOfLeaves(r) {
		built := plainBuild(someKey, leaves)
		for block := range 16 {
			right := leaves[block]
			others := append([]api.Sum{{}, anySum(r)}, built...)
			for range 20 {
				other := right
				other[r.IntN(32)] ^= 1 << r.IntN(8)
				others = append(others, other)
			}
			for _, leaf := range others {
				if tree.Verify(someKey, built, built[1], block, leaf) != (leaf == right) {
					t.Fatalf("block %d: leaf %x, the right one %x", block, leaf, right)
				}
			}
		}
	}
}

// P11.3: each bit of the leaf, and of the root, counts.
func TestEachBitCounts(t *testing.T) {
	r := dice()
	leaves := anySums(r, 16)
	built := plainBuild(someKey, leaves)
	for block := range 16 {
		for bit := range 256 {
			leaf, root := leaves[block], built[1]
			leaf[bit/8] ^= 1 << (bit % 8)
			root[bit/8] ^= 1 << (bit % 8)
			wantVerify(t, someKey, built, built[1], block, leaf, false)
			wantVerify(t, someKey, built, root, block, leaves[block], false)
		}
	}
}

// P11.3: a leaf isn't verified as another block's, under another root, nor with another key.
func TestAnotherBlockRootOrKey(t *testing.T) {
	r := dice()
	leaves := anySums(r, 16)
	built, other := plainBuild(someKey, leaves), plainBuild(someKey, anySums(r, 16))
	for block := range 16 {
		for not := range 16 {
			wantVerify(t, someKey, built, built[1], not, leaves[block], not == block)
		}
		for number, root := range built {
			wantVerify(t, someKey, built, root, block, leaves[block], number == 1)
		}
		wantVerify(t, someKey, built, other[1], block, leaves[block], false)
		wantVerify(t, someKey, other, built[1], block, leaves[block], false)
		for _, key := range append(someKeys(r), someKey[1:], append(slices.Clone(someKey), 1)) {
			wantVerify(t, key, built, built[1], block, leaves[block], bytes.Equal(key, someKey))
		}
	}
}

// P11.3: any bit changed on the path's other side is told; a tag beyond it isn't looked at.
func TestTagsBesideThePath(t *testing.T) {
	r := dice()
	leaves := someLeaves(r)
	built := plainBuild(someKey, leaves)
	for block := range 16 {
		for number := range 32 {
			for range 8 {
				bad := slices.Clone(built)
				bad[number][r.IntN(32)] ^= 1 << r.IntN(8)
				wantVerify(t, someKey, bad, built[1], block, leaves[block], !slices.Contains(beside(block), number))
			}
		}
		for _, number := range beside(block) {
			for bit := range 256 {
				bad := slices.Clone(built)
				bad[number][bit/8] ^= 1 << (bit % 8)
				wantVerify(t, someKey, bad, built[1], block, leaves[block], false)
			}
		}
	}
}

// forged is trees by which one might try to pass another leaf for a block's: another leaf's tree, the block's tags changed about, nodes for leaves, noughts, any tags.
func forged(r *rand.Rand, built []api.Sum, block int, leaf api.Sum) [][]api.Sum {
	updated := plainUpdate(someKey, built, block, leaf)
	keepsRoot := slices.Clone(updated)
	keepsRoot[1] = built[1]
	turned := slices.Clone(built)
	for _, i := range plainPath(block)[:4] {
		turned[i], turned[i^1] = turned[i^1], turned[i]
	}
	lifted := slices.Clone(built)
	copy(lifted[16:], built[8:24])
	leafThere := slices.Clone(built)
	leafThere[16+block] = leaf
	return [][]api.Sum{built, updated, keepsRoot, turned, lifted, leafThere, make([]api.Sum, 32), anySums(r, 32), slices.Repeat([]api.Sum{leaf}, 32), slices.Repeat([]api.Sum{built[1]}, 32)}
}

// P11.3: no tree verifies another leaf of a block under the root.
func TestForgedTrees(t *testing.T) {
	r := dice()
	for _, leaves := range rowsOfLeaves(r) {
		built := plainBuild(someKey, leaves)
		for block := range 16 {
			others := []api.Sum{{}, anySum(r), built[1], built[2], built[3], built[8+block/2], leaves[(block+1)%16], tree.Leaf(someKey, block, anyCell(r))}
			for _, leaf := range others {
				if leaf == leaves[block] {
					continue
				}
				for i, bad := range forged(r, built, block, leaf) {
					if tree.Verify(someKey, bad, built[1], block, leaf) {
						t.Fatalf("tree %d, block %d: another leaf is verified", i, block)
					}
				}
			}
		}
	}
}

// P11.3: trees one of whose tags is any other one's, in all pairs, verify no other leaf.
func TestTagsChangedAbout(t *testing.T) {
	r := dice()
	leaves := anySums(r, 16)
	built := plainBuild(someKey, leaves)
	for to := range 32 {
		for from := range 32 {
			bad := slices.Clone(built)
			bad[to], bad[from] = bad[from], bad[to]
			for block := range 16 {
				leaf := bad[16+block]
				if tree.Verify(someKey, bad, built[1], block, leaf) && leaf != leaves[block] {
					t.Fatalf("%d and %d: block %d", to, from, block)
				}
			}
		}
	}
}

// callAll makes all calls with these, refused ones among them.
func callAll(key []byte, sums []api.Sum, cells []api.Cell) {
	for _, block := range []int{-1, 0, 5, 15, 16, math.MaxInt} {
		tree.Leaf(key, block, api.Cell{7})
		tree.Node(key, block, api.Sum{1}, api.Sum{2})
		take(tree.Path(block), 2)
		for many := range len(sums) + 1 {
			tree.Update(key, sums[:many], block, api.Sum{3})
			tree.Verify(key, sums[:many], api.Sum{4}, block, api.Sum{5})
		}
	}
	for many := range len(sums) + 1 {
		tree.Build(key, sums[:many])
		tree.Sectors(sums[:many])
	}
	for many := range len(cells) + 1 {
		tree.Tags(cells[:many])
	}
}

// P11.4: key, tags and sectors, and all room behind them, stay as they are, whether the call is refused or not.
func TestNothingHandedInIsChanged(t *testing.T) {
	r := dice()
	keyRoom, sumsRoom, cellsRoom := anyBytes(r, 90), anySums(r, 50), make([]api.Cell, 12)
	for i := range cellsRoom {
		cellsRoom[i] = anyCell(r)
	}
	key, sums, cells := slices.Clone(keyRoom), slices.Clone(sumsRoom), slices.Clone(cellsRoom)
	for _, n := range []int{0, 1, 32, 64, 80} {
		callAll(keyRoom[:n], sumsRoom[:33], cellsRoom[:9])
		if !bytes.Equal(keyRoom, key) || !slices.Equal(sumsRoom, sums) || !slices.Equal(cellsRoom, cells) {
			t.Fatalf("a key of %d bytes: something was changed", n)
		}
	}
}

// P11.4: what stands in the room behind arguments counts for nothing.
func TestSpareRoomCountsForNothing(t *testing.T) {
	r := dice()
	keyRoom, leavesRoom := anyBytes(r, 64), anySums(r, 40)
	key, leaves := keyRoom[:20], leavesRoom[:16]
	built := wantBuild(t, key, leaves)
	room := append(slices.Clone(built), anySums(r, 9)...)
	cellsRoom := append(plainSectors(built), anyCell(r), anyCell(r))
	for block := range 16 {
		wantVerify(t, key, room[:32], built[1], block, leaves[block], true)
		wantUpdate(t, key, room[:32], block, anySum(r))
	}
	cells, err := tree.Sectors(room[:32])
	if err != nil || !slices.Equal(cells, cellsRoom[:8]) {
		t.Errorf("Sectors: %d, %v", len(cells), err)
	}
	back, err := tree.Tags(cellsRoom[:8])
	if err != nil {
		t.Fatal(err)
	}
	wantSame(t, "Tags", back, built)
}

// scribble changes a list with all its room.
func scribble[T api.Sum | api.Cell](list []T, change func(*T)) {
	list = list[:cap(list)]
	for i := range list {
		change(&list[i])
	}
}

func otherSum(s *api.Sum) {
	for i := range s {
		s[i] ^= 0xff
	}
}

func otherCell(c *api.Cell) {
	for i := range c {
		c[i] ^= 0xff
	}
}

// answers is what the calls that answer lists say of some leaves.
type answers struct {
	built, updated, back []api.Sum
	cells                []api.Cell
}

// asked is a tree built, updated, its sectors, and the tree of these.
func asked(t *testing.T, leaves []api.Sum) answers {
	t.Helper()
	var a answers
	var err error
	if a.built, err = tree.Build(someKey, leaves); err != nil {
		t.Fatal(err)
	}
	if a.updated, err = tree.Update(someKey, a.built, 6, api.Sum{8}); err != nil {
		t.Fatal(err)
	}
	if a.cells, err = tree.Sectors(a.updated); err != nil {
		t.Fatal(err)
	}
	if a.back, err = tree.Tags(a.cells); err != nil {
		t.Fatal(err)
	}
	return a
}

// wantRight tells where answers aren't, or aren't any more, those of these leaves.
func (a answers) wantRight(t *testing.T, leaves []api.Sum) {
	t.Helper()
	built := plainBuild(someKey, leaves)
	updated := plainUpdate(someKey, built, 6, api.Sum{8})
	wantSame(t, "built", a.built, built)
	wantSame(t, "updated", a.updated, updated)
	wantSame(t, "back", a.back, updated)
	if !slices.Equal(a.cells, plainSectors(updated)) {
		t.Fatal("sectors were changed")
	}
}

// P11.4: what is answered is new memory, with its room: a later call doesn't change it, and changing it changes no argument and no other answer, of an earlier call or of a later one.
func TestAnswersAreNew(t *testing.T) {
	r := dice()
	leaves, others := anySums(r, 16), anySums(r, 16)
	before := slices.Clone(leaves)
	for _, scribbled := range []func(a answers){
		func(answers) {},
		func(a answers) { scribble(a.built, otherSum) },
		func(a answers) { scribble(a.updated, otherSum) },
		func(a answers) { scribble(a.cells, otherCell) },
		func(a answers) { scribble(a.back, otherSum) },
	} {
		first, second := asked(t, leaves), asked(t, others)
		first.wantRight(t, leaves)
		second.wantRight(t, others)
		scribbled(second)
		first.wantRight(t, leaves)
		wantSame(t, "leaves", leaves, before)
		asked(t, others).wantRight(t, others)
		first.wantRight(t, leaves)
	}
}

// P11.4: an update that changes nothing is new memory, too.
func TestUpdateThatChangesNothingIsNew(t *testing.T) {
	built := plainBuild(someKey, anySums(dice(), 16))
	before := slices.Clone(built)
	updated, err := tree.Update(someKey, built, 4, built[20])
	if err != nil {
		t.Fatal(err)
	}
	wantSame(t, "updated", updated, before)
	scribble(updated, otherSum)
	wantSame(t, "the tree handed in", built, before)
	updated, err = tree.Update(someKey, built, 4, built[20])
	if err != nil {
		t.Fatal(err)
	}
	scribble(built, otherSum)
	wantSame(t, "updated", updated, before)
}

// P11.4: key, leaves, trees and sectors that are written over behind a call change nothing that was answered.
func TestNothingHandedInIsKept(t *testing.T) {
	r := dice()
	key, leaves := anyBytes(r, 32), someLeaves(r)
	ownKey, ownLeaves := slices.Clone(key), slices.Clone(leaves)
	built, err := tree.Build(ownKey, ownLeaves)
	if err != nil {
		t.Fatal(err)
	}
	clear(ownKey)
	scribble(ownLeaves, otherSum)
	want := plainBuild(key, leaves)
	wantSame(t, "built", built, want)
	updated, err := tree.Update(key, built, 9, api.Sum{1})
	if err != nil {
		t.Fatal(err)
	}
	scribble(built, otherSum)
	want = plainUpdate(key, want, 9, api.Sum{1})
	wantSame(t, "updated", updated, want)
	cells, err := tree.Sectors(updated)
	if err != nil {
		t.Fatal(err)
	}
	scribble(updated, otherSum)
	if !slices.Equal(cells, plainSectors(want)) {
		t.Error("the sectors were changed")
	}
	back, err := tree.Tags(cells)
	if err != nil {
		t.Fatal(err)
	}
	scribble(cells, otherCell)
	wantSame(t, "back", back, want)
}

// What a call answers hangs on its arguments alone, not on calls ahead of it, also where those were refused.
func TestCallsKeepNothing(t *testing.T) {
	r := dice()
	leaves, c, leaf := someLeaves(r), anyCell(r), anySum(r)
	built := plainBuild(someKey, leaves)
	path := tree.Path(12)
	for range 3 {
		callAll(anyBytes(r, 9), anySums(r, 33), make([]api.Cell, 9))
		callAll(nil, nil, nil)
		wantBuild(t, someKey, leaves)
		wantUpdate(t, someKey, built, 3, leaf)
		wantVerify(t, someKey, built, built[1], 3, leaves[3], true)
		wantVerify(t, someKey, built, built[1], 3, leaf, false)
		if tree.Leaf(someKey, 3, c) != plainLeaf(someKey, 3, c) || tree.Node(someKey, 3, leaf, leaf) != plainNode(someKey, 3, leaf, leaf) {
			t.Error("Leaf or Node")
		}
		if got := take(path, 99); !slices.Equal(got, plainPath(12)) {
			t.Errorf("Path(12): %v", got)
		}
	}
}
