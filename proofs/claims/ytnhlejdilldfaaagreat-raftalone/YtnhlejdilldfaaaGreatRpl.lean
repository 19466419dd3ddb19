/- Raft plainly: a replica, what it tells, and what each call makes of it. -/
import Derived.Test.YtnhlejdilldfaaaGreatCix
namespace Go.Proofs.YtnhlejdilldfaaaGreat
open Go Go.RowKit
deriving instance DecidableEq for LE
/-- A message plainly. -/
structure MSG where
  kind : Int
  frm : Int
  dst : Int
  term : Int
  index : Int := 0
  logTerm : Int := 0
  commit : Int := 0
  yes : Bool := false
  ents : List LE := []
  off : Int := 0
  piece : List UInt8 := []
  done : Bool := false
  mems : List Int := []
deriving DecidableEq
/-- What is kept. -/
structure HD where
  term : Int
  vote : Int
  bi : Int
  bt : Int
  base : List UInt8
  bconf : List Int
  log : List LE
deriving DecidableEq
/-- A replica plainly. -/
structure RN where
  me : Int
  k : HD
  role : Int
  leader : Int
  commit : Int
  draws : List Int
  wait : Int
  ticks : Int
  quiet : Int
  votes : Int → Bool
  next : Int → Int
  had : Int → Int
  ends : Int → Int
  pidx : Int
  pterm : Int
  ps : List UInt8
  /-- the numbers that next may tell of, besides replicas' -/
  keys : List Int
namespace RN
def last (N : RN) : Int := N.k.bi + (N.k.log.length : Nat)
def zle : LE := ⟨0, [], false, []⟩
def entry (N : RN) (i : Int) : LE := N.k.log.getD (i - N.k.bi - 1).toNat zle
def termAt (N : RN) (i : Int) : Int := if i = N.k.bi then N.k.bt else (N.entry i).term
def upTo (N : RN) (i : Int) : List LE := N.k.log.take (i - N.k.bi).toNat
def confOf (base : List Int) (l : List LE) : List Int := (ltM base l l.length).1
def mems (N : RN) : List Int := confOf N.k.bconf N.k.log
def confAt (N : RN) : Int := N.k.bi + ((ltM N.k.bconf N.k.log N.k.log.length).2 : Nat)
def memsUpTo (N : RN) (i : Int) : List Int := confOf N.k.bconf (N.upTo i)
/-- The next draw. -/
def drawV (N : RN) : Int := match N.draws with
  | [] => (7 * N.me + 3 * N.k.term) % 20
  | d :: _ => if Int.tmod d 20 < 0 then Int.tmod d 20 + 20 else Int.tmod d 20
def begin (N : RN) : RN := { N with ticks := 0, wait := 10 + N.drawV, draws := N.draws.tail }
def follow (N : RN) (term leader : Int) : RN :=
  let k1 : HD := if term > N.k.term then { N.k with term := term, vote := -1 } else N.k
  let N1 : RN := { N with k := k1, role := 1, leader := leader, quiet := if leader = -1 then N.quiet else 0 }
  if N.role = 1 ∧ leader = -1 then N1 else N1.begin
def mayStand (N : RN) : Bool := decide (N.me ∈ N.mems) || (decide (N.confAt > N.commit) && decide (N.me ∈ N.memsUpTo (N.confAt - 1)))
def msg (N : RN) (kind dst : Int) : MSG := { kind := kind, frm := N.me, dst := dst, term := N.k.term }
def others (N : RN) (f : Int → MSG) : List MSG := (N.mems.filter fun w => decide (w ≠ N.me)).map f
def ask (N : RN) (who : Int) : MSG := { N.msg 1 who with index := N.last, logTerm := N.termAt N.last }
def lacksAhead (N : RN) (who : Int) : Bool := decide (N.next who - 1 < N.k.bi)
def piece (N : RN) (who : Int) : MSG :=
  let from_ : Nat := min (N.ends who).toNat N.k.base.length
  let end_ : Nat := min (from_ + 200) N.k.base.length
  { N.msg 5 who with index := N.k.bi, logTerm := N.k.bt, mems := N.k.bconf, off := (from_ : Nat), piece := (N.k.base.take end_).drop from_, done := decide (end_ = N.k.base.length) }
def tell (N : RN) (who : Int) : MSG :=
  if N.lacksAhead who then N.piece who else
  { N.msg 3 who with index := N.next who - 1, logTerm := N.termAt (N.next who - 1), ents := (N.k.log.drop (N.next who - 1 - N.k.bi).toNat).take 16, commit := N.commit }
def hadBy (N : RN) (who : Int) : Int := if who = N.me then N.last else N.had who
/-- The greatest index that more than half of those that take part have. -/
def mostHave (N : RN) : Int :=
  let l := (N.mems.map N.hadBy).mergeSort (fun a b => decide (a ≤ b))
  l.getD (l.length - (l.length / 2 + 1)) 0
/-- The greatest index of its own term, from i down, above what is committed. -/
def settleAt (N : RN) : Nat → Int → Int
  | 0, _ => N.commit
  | n + 1, i => if i > N.commit then (if N.termAt i = N.k.term then i else settleAt N n (i - 1)) else N.commit
def settle (N : RN) : RN :=
  let N1 : RN := { N with commit := N.settleAt (N.mostHave - N.commit).toNat N.mostHave }
  if N1.confAt ≤ N1.commit ∧ N1.me ∉ N1.mems then N1.follow N1.k.term (-1) else N1
def meet (N : RN) : RN :=
  let gone : Int → Bool := fun x => decide (0 ≤ x ∧ x < 16) && decide (x ∉ N.mems)
  { N with
    next := fun x => let y := if gone x then 0 else N.next x; if x ∈ N.mems ∧ y = 0 ∧ x ≠ N.me then N.last + 1 else y
    had := fun x => if gone x then 0 else N.had x
    ends := fun x => if gone x then 0 else N.ends x }
def push (N : RN) (e : LE) : RN := { N with k := { N.k with log := N.k.log ++ [e] } }
def add (N : RN) (e : LE) : RN := (N.push e).meet.settle
def addMsgs (N : RN) (e : LE) : List MSG := (N.add e).others (N.add e).tell
def newLead (N : RN) : RN := { N with role := 3, leader := N.me, ticks := 0, next := fun _ => 0, had := fun _ => 0, ends := fun _ => 0, keys := N.mems }
def noop (N : RN) : LE := ⟨N.k.term, [], false, []⟩
def lead (N : RN) : RN × List MSG := (N.newLead.add N.noop, N.newLead.addMsgs N.noop)
def voted (N : RN) (who : Int) : RN := { N with votes := fun x => if x = who then true else N.votes x }
def won (N : RN) : Bool := decide (N.mems.length < 2 * (N.mems.filter N.votes).length)
def count (N : RN) (who : Int) : RN × List MSG :=
  let N1 := N.voted who
  if N1.won then N1.lead else if who ≠ N1.me then (N1, []) else (N1, N1.others N1.ask)
def cand (N : RN) : RN :=
  let N1 : RN := { N with k := { N.k with term := N.k.term + 1, vote := N.me }, role := 2, leader := -1 }
  { N1.begin with votes := fun _ => false }
def stand (N : RN) : RN × List MSG := if N.mayStand then N.cand.count N.me else (N.begin, [])
def speak (N : RN) : RN × List MSG := if N.ticks < 3 then (N, []) else ({ N with ticks := 0 }, N.others N.tell)
def ticked (N : RN) : RN := { N with ticks := N.ticks + 1, quiet := N.quiet + 1 }
def tick (N : RN) : RN × List MSG :=
  let N1 := N.ticked
  if N1.role = 3 then N1.speak else if N1.ticks < N1.wait then (N1, []) else N1.stand
end RN
namespace MSG
def cnt (k : Int) : Bool := decide (0 ≤ k ∧ k ≤ 2147483647)
end MSG
namespace RN
/-- As New makes it. -/
def made (me : Int) (h : HD) (draws : List Int) : RN :=
  ({ me := me, k := h, role := 1, leader := -1, commit := h.bi, draws := draws, wait := 0, ticks := 0, quiet := 0, votes := fun _ => false, next := fun _ => 0, had := fun _ => 0, ends := fun _ => 0, pidx := 0, pterm := 0, ps := [], keys := [] } : RN).begin
def newOk (me : Int) (h : HD) : Bool := decide (0 ≤ me ∧ me < 16) && (MSG.cnt h.term && (MSG.cnt h.bi && (decide (0 ≤ h.vote ∧ h.vote < 16) || decide (h.vote = -1))))
end RN
end Go.Proofs.YtnhlejdilldfaaaGreat
