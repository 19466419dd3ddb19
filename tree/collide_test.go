package tree_test

import (
	"encoding/json"
	"math/rand"
	"os"
	"os/exec"
	"path/filepath"
	"slices"
	"strconv"
	"strings"
	"testing"

	"muniment/api"
	"muniment/sha"
	"muniment/tree"
)

// weakSha stands in layer 1's place where digests must collide, as none of SHA-256 are known to: it has but 64 digests.
const weakSha = `package sha

import (
	"crypto/sha256"

	"muniment/api"
)

func Sum(s string) string {
	h := sha256.Sum256([]byte(s))
	h = sha256.Sum256([]byte{h[0] % 64})
	return string(h[:])
}

func Same(a, b string) bool { return a == b }

func Collide(w api.Witness) bool { return w.A != w.B && Sum(w.A) == Sum(w.B) }
`

// weakMark is set where the test runs with the weak digests.
const weakMark = "DIGESTS_COLLIDE"

// Promises 6.2 and 6.3: of two proofs that show unlike things under one root a collision is told. The test runs itself again, with the weak digests laid over layer 1's.
func TestExtractOfDigestsThatCollide(t *testing.T) {
	if os.Getenv(weakMark) != "" {
		extractCollisions(t)
		return
	}
	if testing.Short() {
		t.Skip("builds the package anew")
	}
	run := exec.Command("go", "test", "-v", "-count=1", "-overlay", overlay(t), "-run", "^"+t.Name()+"$", "muniment/tree")
	run.Env = append(os.Environ(), weakMark+"=yes")
	if out, e := run.CombinedOutput(); e != nil || !strings.Contains(string(out), "--- PASS: "+t.Name()) {
		t.Errorf("%v\n%s", e, out)
	}
}

// overlay is the path of a file that tells the go command to take weakSha for the files of layer 1.
func overlay(t *testing.T) string {
	t.Helper()
	files, e := filepath.Glob("../sha/*.go")
	if e != nil || len(files) == 0 {
		t.Fatal("the files of layer 1 are not there", e)
	}
	folder, replace := t.TempDir(), map[string]string{}
	for _, f := range files {
		replace[whole(t, f)] = ""
	}
	weak := filepath.Join(folder, "weak.go")
	replace[whole(t, files[0])] = weak
	list, e := json.Marshal(map[string]any{"Replace": replace})
	if e != nil {
		t.Fatal(e)
	}
	out := filepath.Join(folder, "overlay.json")
	for path, bytes := range map[string][]byte{weak: []byte(weakSha), out: list} {
		if e := os.WriteFile(path, bytes, 0o600); e != nil {
			t.Fatal(e)
		}
	}
	return out
}

// whole is a path from the root on.
func whole(t *testing.T, path string) string {
	t.Helper()
	out, e := filepath.Abs(path)
	if e != nil {
		t.Fatal(e)
	}
	return out
}

// extractCollisions tries unlike things with proofs of chance at all places of small lists.
func extractCollisions(t *testing.T) {
	rnd := rand.New(rand.NewSource(67))
	found := map[byte]int{}
	for n := 1; n < 10; n++ {
		l := things(n)
		for i, s := range l {
			p := proof(t, l, i)
			for k := range 400 {
				q := otherProof(p, rnd)
				other := "other " + strconv.Itoa(k)
				if w, is := extractBoth(t, s, other, i, n, p, q); is {
					found[w.A[0]]++
				}
				extractBoth(t, s, s, i, n, p, q)
			}
		}
	}
	if found[0] == 0 || found[1] == 0 {
		t.Errorf("the collisions that were found are of %d leaves and %d halves", found[0], found[1])
	}
}

// otherProof is a proof with others in the place of some of its digests, and now and then with one that is none, or one too many.
func otherProof(p []string, rnd *rand.Rand) []string {
	q := slices.Clone(p)
	for k := range q {
		switch rnd.Intn(10) {
		case 0, 1, 2, 3:
			q[k] = sha.Sum(strconv.Itoa(rnd.Intn(1000)))
		case 4:
			q[k] = q[k][:31]
		}
	}
	if rnd.Intn(10) == 0 {
		q = append(q, sha.Sum("more"))
	}
	return q
}

// extractBoth holds that a collision is told just where both proofs show unlike things under one root, whichever of them comes first.
func extractBoth(t *testing.T, a, b string, i, n int, p, q []string) (api.Witness, bool) {
	t.Helper()
	w, is := tree.Extract(a, b, i, n, p, q)
	root := weakRoot(a, i, n, p)
	if want := a != b && tree.Verify(root, a, i, n, p) && tree.Verify(root, b, i, n, q); is != want {
		t.Errorf("%q and %q at %d of %d: %t, want %t", a, b, i, n, is, want)
	}
	if is && !sha.Collide(w) || !is && w != (api.Witness{}) {
		t.Errorf("%q and %q at %d of %d: %q, %t", a, b, i, n, w, is)
	}
	if back, isBack := tree.Extract(b, a, i, n, q, p); isBack != is || back.A != w.B || back.B != w.A {
		t.Errorf("%q and %q at %d of %d: the other way round %q, %t", a, b, i, n, back, isBack)
	}
	return w, is
}

// weakRoot is where a proof leads to, by the chapter's words.
func weakRoot(s string, i, n int, p []string) string {
	if n == 1 {
		return sha.Sum("\x00" + s)
	}
	k := 1
	for 2*k < n {
		k *= 2
	}
	last := len(p) - 1
	if i < k {
		return sha.Sum("\x01" + weakRoot(s, i, k, p[:last]) + p[last])
	}
	return sha.Sum("\x01" + p[last] + weakRoot(s, i-k, n-k, p[:last]))
}
