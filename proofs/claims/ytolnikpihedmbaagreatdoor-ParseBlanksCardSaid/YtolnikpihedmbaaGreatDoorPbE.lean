/- What a program is made of, as data: terms, expressions, literals, rules; what is right, what is the same, variables, sizes. Conditions: none. What the tokens of a text are read as: the plain mathematics of the reader. Conditions: none. What is read without an error is formed, and rules stand behind one another. Conditions: none. -/
import Derived.Test.YtolnikpihedmbaaGreatDoorPbD
set_option linter.unusedVariables false
set_option linter.unusedSimpArgs false
namespace Go.Proofs.YtolnikpihedmbaaGreatDoor

structure TTm where
  v : ByteArray
  k : Int
  n : Int
  s : ByteArray
  deriving DecidableEq
inductive TEx where
  | mk (op : Int) (t : TTm) (kids : List TEx)
structure TAm where
  rel : ByteArray
  args : List TTm
structure TLt where
  kind : Int
  atom : TAm
  op : Int
  left : TEx
  right : TEx
  pos : Int
structure TRu where
  head : TAm
  agg : Int
  col : Int
  body : List TLt
  pos : Int
structure TDe where
  rel : ByteArray
  kinds : List Int
  pos : Int
structure TPg where
  decls : List TDe
  rules : List TRu
def TEx.op : TEx → Int | .mk o _ _ => o
def TEx.t : TEx → TTm | .mk _ t _ => t
def TEx.kids : TEx → List TEx | .mk _ _ l => l

/-- one token of a kind, and nothing around it. -/
def soleB (q : Nat) (s : ByteArray) : Bool := decide (tokOf kindW s.data.toList = some (q, s.data.toList))
def zT : TTm := ⟨noText, 0, 0, noText⟩
def zVal (t : TTm) : Bool := decide (t.k = 0) && (decide (t.n = 0) && decide (t.s = noText))
def rightTm (t : TTm) : Bool := if t.v.size = 0 then isRight t.k t.n t.s else soleB 3 t.v && zVal t
def rightE : Nat → TEx → Bool
  | 0, .mk op t ks => decide (op = 0) && (decide (ks.length = 0) && rightTm t)
  | d + 1, .mk op t ks => if op = 0 then decide (ks.length = 0) && rightTm t else
      decide (1 ≤ op ∧ op ≤ 3) && (decide (t = zT) && match ks with | [a, b] => rightE d a && rightE d b | _ => false)
def zeroE (e : TEx) : Bool := decide (e.op = 0) && (decide (e.t = zT) && decide (e.kids.length = 0))
def rightAm (a : TAm) : Bool := soleB 2 a.rel && (decide (a.args.length ≤ 6) && a.args.all rightTm)
def zeroAm (a : TAm) : Bool := decide (a.rel.size = 0) && decide (a.args.length = 0)
def rightLt (l : TLt) : Bool :=
  if l.kind = 1 ∨ l.kind = 2 then rightAm l.atom && (decide (l.op = 0) && (zeroE l.left && zeroE l.right))
  else if l.kind = 3 then zeroAm l.atom && (decide (1 ≤ l.op ∧ l.op ≤ 6) && (rightE 20 l.left && rightE 20 l.right))
  else false
def aggB (r : TRu) : Bool :=
  if r.agg = 0 ∧ r.col = 0 then true else
  decide (1 ≤ r.agg ∧ r.agg ≤ 4) && match r.head.args[r.col.toNat]? with | some t => decide (0 ≤ r.col) && decide (t.v.size ≠ 0) | none => false
def rightRu (r : TRu) : Bool := rightAm r.head && (aggB r && (decide (r.body.length ≤ 8) && r.body.all rightLt))
def kindB (k : Int) : Bool := decide (k = 1 ∨ k = 2)
def rightDe (d : TDe) : Bool := soleB 2 d.rel && (decide (d.kinds.length ≤ 6) && d.kinds.all kindB)
def formedB (p : TPg) : Bool := (decide (p.decls.length ≤ 32) && p.decls.all rightDe) && (decide (p.rules.length ≤ 64) && p.rules.all rightRu)

def okTm (t : TTm) : Prop := t.v.size ≤ 140737488351232 ∧ t.s.size ≤ 140737488351232
end Go.Proofs.YtolnikpihedmbaaGreatDoor

set_option linter.unusedVariables false
set_option linter.unusedSimpArgs false
namespace Go.Proofs.YtolnikpihedmbaaGreatDoor

/-- a reader: the tokens that are left, the first error, and where it is. -/
structure PS where
  rest : List Tk
  flt : Nat
  pos : Nat
def cRel : List UInt8 := [114, 101, 108]
def cNot : List UInt8 := [110, 111, 116]
def cLp : List UInt8 := [40]
def cRp : List UInt8 := [41]
def cCo : List UInt8 := [44]
def cPt : List UInt8 := [46]
def cIf : List UInt8 := [58, 45]
def cMi : List UInt8 := [45]
/-- words and signs: the group, the text, the number. -/
def wordsL : List (Nat × List UInt8 × Nat) := [(1, [105, 110, 116], 1), (1, [115, 121, 109], 2), (2, [99, 111, 117, 110, 116], 1), (2, [115, 117, 109], 2), (2, [109, 105, 110], 3), (2, [109, 97, 120], 4),
  (3, [61], 1), (3, [33, 61], 2), (3, [60], 3), (3, [60, 61], 4), (3, [62], 5), (3, [62, 61], 6), (4, [43], 1), (4, [45], 2), (5, [42], 3)]
/-- the number of a text in a group; 0: it is not there. -/
def oneOf (g : Nat) (t : List UInt8) : Nat := match wordsL.find? (fun w => decide (w.1 = g) && decide (w.2.1 = t)) with | some w => w.2.2 | none => 0
def zE : TEx := .mk 0 zT []
def leafE (t : TTm) : TEx := .mk 0 t []
def numV (t : List UInt8) : Int := match Lib.atoiAll t with | .ok n => n | _ => 0
def adv (s : PS) : PS := { s with rest := s.rest.tail }
def rfAt (s : PS) (f a : Nat) : PS := ⟨[], if s.flt = 0 then f else s.flt, if s.flt = 0 then a else s.pos⟩

section
variable (e : Nat)
def nx (s : PS) : Tk := s.rest.headD (0, [], e)
def rf (s : PS) (f : Nat) : PS := rfAt s f (nx e s).2.2
def room (s : PS) (n m : Nat) : PS := if n = m then rf e s 3 else s
def isT (s : PS) (t : List UInt8) : Bool := decide ((nx e s).2.1 = t)
def needT (s : PS) (t : List UInt8) : PS := if isT e s t = true then adv s else rf e s 2
def needK (s : PS) (k : Nat) : List UInt8 × PS := if (nx e s).1 = k then ((nx e s).2.1, adv s) else ([], rf e s 2)
def take1 (s : PS) (g : Nat) : PS := if oneOf g (nx e s).2.1 = 0 then s else adv s
def need1 (s : PS) (g : Nat) : PS := if oneOf g (nx e s).2.1 = 0 then rf e s 2 else adv s
def got1 (s : PS) (g : Nat) : Nat := oneOf g (nx e s).2.1
def takeT (s : PS) (t : List UInt8) : PS := if isT e s t = true then adv s else s
def numM (s : PS) : Int × PS :=
  let r := needK e (takeT e s cMi) 4
  ((if isT e s cMi = true then -1 else 1) * numV r.1, r.2)
def termM (s : PS) : TTm × PS :=
  if (nx e s).1 = 3 then let r := needK e s 3; (⟨bts r.1, 0, 0, noText⟩, r.2)
  else if (nx e s).1 = 2 then let r := needK e s 2; (⟨noText, 2, 0, bts r.1⟩, r.2)
  else let r := numM e s; (⟨noText, 1, r.1, noText⟩, r.2)
def chainN (g : Nat) (part : PS → TEx × PS) : Nat → TEx → PS → TEx × PS
  | 0, x, s => (x, s)
  | n + 1, x, s => if got1 e s g = 0 then (x, s) else let r := part (adv s); chainN g part n (.mk (got1 e s g) zT [x, r.1]) r.2
def chainM (g : Nat) (part : PS → TEx × PS) (s : PS) : TEx × PS := let r := part s; chainN e g part r.2.rest.length r.1 r.2
def exprOf (oper : PS → TEx × PS) (s : PS) : TEx × PS := chainM e 4 (chainM e 5 oper) s
def operM : Nat → PS → TEx × PS
  | 0, s => if isT e s cLp = true then (zE, rf e s 4) else let r := termM e s; (leafE r.1, r.2)
  | d + 1, s => if isT e s cLp = true then let r := exprOf e (operM d) (adv s); (r.1, needT e r.2 cRp) else let r := termM e s; (leafE r.1, r.2)
def exprM (d : Nat) (s : PS) : TEx × PS := exprOf e (operM e d) s
def listN {α : Type} (f : α → PS → α × PS) : Nat → α → PS → α × PS
  | 0, a, s => let r := f a (rf e s 3); (r.1, rf e r.2 2)
  | k + 1, a, s => let r := f a s; if isT e r.2 cCo = true then listN f k r.1 (adv r.2) else if isT e r.2 cRp = true then (r.1, adv r.2) else (r.1, rf e r.2 2)
def listM {α : Type} (f : α → PS → α × PS) (a : α) (s : PS) : α × PS :=
  if isT e (needT e s cLp) cRp = true then (a, adv (needT e s cLp)) else listN e f 6 a (needT e s cLp)
def argM (a : List TTm) (s : PS) : List TTm × PS := let t := termM e s; (a ++ [t.1], t.2)
def atomM (s : PS) : TAm × PS := let r := needK e s 2; let q := listM e (argM e) [] r.2; (⟨bts r.1, q.1⟩, q.2)
def cmpM (s : PS) : TLt × PS :=
  let l := exprM e 20 s
  let o := need1 e l.2 3
  let r := exprM e 20 o
  (⟨3, ⟨noText, []⟩, got1 e l.2 3, l.1, r.1, (nx e s).2.2⟩, if (rightE 20 l.1 && rightE 20 r.1) = true then r.2 else rfAt r.2 4 (nx e s).2.2)
def befM (s : PS) : Bool := decide ((nx e s).1 = 2) && match s.rest with | _ :: y :: _ => decide (y.2.1 = cLp) | _ => false
def litM (s : PS) : TLt × PS :=
  if isT e s cNot = true then let a := atomM e (adv s); (⟨2, a.1, 0, zE, zE, (nx e s).2.2⟩, a.2)
  else if befM e s = true then let a := atomM e s; (⟨1, a.1, 0, zE, zE, (nx e s).2.2⟩, a.2)
  else cmpM e s
def bodyN : Nat → List TLt → PS → List TLt × PS
  | 0, a, s => let r := litM e (rf e s 3); (a ++ [r.1], r.2)
  | k + 1, a, s => let r := litM e s; if isT e r.2 cCo = true then bodyN k (a ++ [r.1]) (adv r.2) else (a ++ [r.1], r.2)
def bodyM (s : PS) : List TLt × PS := if isT e s cIf = true then bodyN e 8 [] (adv s) else ([], s)
/-- a head's next item: the term, and the rule's aggregate and its column. -/
def itemT (x : TRu) (s : PS) : (TTm × Int × Int) × PS :=
  if x.agg ≠ 0 then let t := termM e s; ((t.1, x.agg, x.col), t.2)
  else if got1 e s 2 = 0 then let t := termM e s; ((t.1, 0, x.col), t.2)
  else let v := needK e (needT e (adv s) cLp) 3; ((⟨bts v.1, 0, 0, noText⟩, got1 e s 2, x.head.args.length), needT e v.2 cRp)
def itemM (x : TRu) (s : PS) : TRu × PS := let r := itemT e x s; ({ x with head := ⟨x.head.rel, x.head.args ++ [r.1.1]⟩, agg := r.1.2.1, col := r.1.2.2 }, r.2)
def headM (s : PS) : TRu × PS := let r := needK e s 2; listM e (itemM e) ⟨⟨bts r.1, []⟩, 0, 0, [], (nx e s).2.2⟩ r.2
def ruleM (s : PS) : TRu × PS := let h := headM e s; let b := bodyM e h.2; ({ h.1 with body := b.1 }, needT e b.2 cPt)
def kindM (a : List Int) (s : PS) : List Int × PS := (a ++ [(got1 e s 1 : Int)], need1 e s 1)
def declM (s : PS) : TDe × PS := let r := needK e (needT e s cRel) 2; let q := listM e (kindM e) [] r.2; (⟨bts r.1, q.1, (nx e s).2.2⟩, needT e q.2 cPt)
def progN : Nat → TPg → PS → TPg × PS
  | 0, p, s => (p, s)
  | n + 1, p, s =>
    if s.rest = [] then (p, s)
    else if isT e s cRel = true then let r := declM e (room e s p.decls.length 32); progN n ⟨p.decls ++ [r.1], p.rules⟩ r.2
    else let r := ruleM e (room e s p.rules.length 64); progN n ⟨p.decls, p.rules ++ [r.1]⟩ r.2
def progM (s : PS) : TPg × PS := progN e s.rest.length ⟨[], []⟩ s
end

/-- what reading does to a reader: nothing is read that isn't there; an error stays, and is within the text. -/
structure Stp (e : Nat) (s s' : PS) : Prop where
  sub : ∀ x ∈ s'.rest, x ∈ s.rest
  len : s'.rest.length ≤ s.rest.length
  pos : s.pos ≤ e → (∀ x ∈ s.rest, x.2.2 ≤ e) → s'.pos ≤ e
  flt : s'.flt = 0 → s.flt = 0 ∧ s'.rest <:+ s.rest
theorem rfAt_flt (s : PS) {f : Nat} (hf : f ≠ 0) (a : Nat) : (rfAt s f a).flt ≠ 0 := by unfold rfAt; dsimp only; split <;> assumption
section
variable {e : Nat}
theorem Stp.refl (s : PS) : Stp e s s := ⟨fun _ h => h, Nat.le_refl _, fun h _ => h, fun h => ⟨h, List.suffix_refl _⟩⟩
theorem Stp.trans {a b c : PS} (h : Stp e a b) (h' : Stp e b c) : Stp e a c :=
  ⟨fun x hx => h.sub x (h'.sub x hx), Nat.le_trans h'.len h.len, fun h1 h2 => h'.pos (h.pos h1 h2) (fun x hx => h2 x (h.sub x hx)), fun h0 => ⟨(h.flt (h'.flt h0).1).1, (h'.flt h0).2.trans (h.flt (h'.flt h0).1).2⟩⟩
theorem adv_st (s : PS) : Stp e s (adv s) := ⟨fun x hx => List.mem_of_mem_tail hx, by simp [adv], fun h _ => h, fun h => ⟨h, List.tail_suffix _⟩⟩
theorem rfAt_st (s : PS) {f : Nat} (hf : f ≠ 0) {a : Nat} (ha : (∀ x ∈ s.rest, x.2.2 ≤ e) → a ≤ e) : Stp e s (rfAt s f a) :=
  ⟨fun x hx => by simp [rfAt] at hx, Nat.zero_le _, fun h h1 => by unfold rfAt; dsimp only; split; exact ha h1; exact h, fun h => absurd h (rfAt_flt s hf a)⟩
theorem nx_pos (s : PS) (h : ∀ x ∈ s.rest, x.2.2 ≤ e) : (nx e s).2.2 ≤ e := by
  unfold nx
  cases hr : s.rest with
  | nil => exact Nat.le_refl _
  | cons x r => exact h x (by simp [hr])
theorem rf_st (s : PS) {f : Nat} (hf : f ≠ 0) : Stp e s (rf e s f) := rfAt_st s hf (nx_pos s)
theorem rf_flt (s : PS) {f : Nat} (hf : f ≠ 0) : (rf e s f).flt ≠ 0 := rfAt_flt s hf _
theorem nx_lt {s : PS} {t : List UInt8} (h : isT e s t = true) (ht : t ≠ []) : (adv s).rest.length < s.rest.length := by
  unfold isT nx at h
  cases hr : s.rest with
  | nil => rw [hr] at h; simp at h; exact absurd h ht
  | cons x r => simp [adv, hr]
theorem nx_lt1 {s : PS} {g : Nat} (h : got1 e s g ≠ 0) : (adv s).rest.length < s.rest.length := by
  cases hr : s.rest with
  | nil => exfalso; apply h; unfold got1 nx; rw [hr]; unfold oneOf; simp [wordsL]
  | cons x r => simp [adv, hr]
theorem nx_ltk {s : PS} {k : Nat} (h : (nx e s).1 = k) (hk : k ≠ 0) : (adv s).rest.length < s.rest.length := by
  unfold nx at h
  cases hr : s.rest with
  | nil => rw [hr] at h; simp at h; exact absurd h.symm hk
  | cons x r => simp [adv, hr]
theorem isT_nil {s : PS} (h : s.rest = []) {t : List UInt8} (ht : t ≠ []) : isT e s t = false := by unfold isT nx; rw [h]; simp; exact fun h => ht h
theorem room_st (s : PS) (n m : Nat) : Stp e s (room e s n m) := by unfold room; split; exact rf_st _ (by decide); exact .refl _
theorem needT_st (s : PS) (t : List UInt8) : Stp e s (needT e s t) := by unfold needT; split; exact adv_st _; exact rf_st _ (by decide)
theorem takeT_st (s : PS) (t : List UInt8) : Stp e s (takeT e s t) := by unfold takeT; split; exact adv_st _; exact .refl _
theorem needK_st (s : PS) (k : Nat) : Stp e s (needK e s k).2 := by unfold needK; split; exact adv_st _; exact rf_st _ (by decide)
theorem need1_st (s : PS) (k : Nat) : Stp e s (need1 e s k) := by unfold need1; split; exact rf_st _ (by decide); exact adv_st _
theorem numM_st (s : PS) : Stp e s (numM e s).2 := (takeT_st _ _).trans (needK_st _ _)
theorem termM_st (s : PS) : Stp e s (termM e s).2 := by
  unfold termM
  split
  · exact needK_st _ _
  · split
    · exact needK_st _ _
    · exact numM_st _
theorem chainN_st {g : Nat} {part : PS → TEx × PS} (hp : ∀ s, Stp e s (part s).2) : ∀ (n : Nat) (x : TEx) (s : PS), Stp e s (chainN e g part n x s).2
  | 0, _, _ => .refl _
  | n + 1, x, s => by
    unfold chainN
    split
    · exact .refl _
    · exact ((adv_st s).trans (hp _)).trans (chainN_st hp n _ _)
theorem chainM_st {g : Nat} {part : PS → TEx × PS} (hp : ∀ s, Stp e s (part s).2) (s : PS) : Stp e s (chainM e g part s).2 := (hp _).trans (chainN_st hp _ _ _)
theorem exprOf_st {part : PS → TEx × PS} (hp : ∀ s, Stp e s (part s).2) (s : PS) : Stp e s (exprOf e part s).2 := chainM_st (chainM_st hp) s
theorem operM_st : ∀ (d : Nat) (s : PS), Stp e s (operM e d s).2
  | 0, s => by
    unfold operM
    split
    · exact rf_st _ (by decide)
    · exact termM_st _
  | d + 1, s => by
    unfold operM
    split
    · exact ((adv_st s).trans (exprOf_st (operM_st d) _)).trans (needT_st _ _)
    · exact termM_st _
theorem exprM_st (d : Nat) (s : PS) : Stp e s (exprM e d s).2 := exprOf_st (operM_st d) s
theorem listN_st {α : Type} {f : α → PS → α × PS} (hf : ∀ a s, Stp e s (f a s).2) : ∀ (k : Nat) (a : α) (s : PS), Stp e s (listN e f k a s).2
  | 0, _, _ => ((rf_st _ (by decide)).trans (hf _ _)).trans (rf_st _ (by decide))
  | k + 1, a, s => by
    unfold listN
    dsimp only
    split
    · exact ((hf _ _).trans (adv_st _)).trans (listN_st hf k _ _)
    · split
      · exact (hf _ _).trans (adv_st _)
      · exact (hf _ _).trans (rf_st _ (by decide))
theorem listM_st {α : Type} {f : α → PS → α × PS} (hf : ∀ a s, Stp e s (f a s).2) (a : α) (s : PS) : Stp e s (listM e f a s).2 := by
  unfold listM
  split
  · exact (needT_st _ _).trans (adv_st _)
  · exact (needT_st _ _).trans (listN_st hf _ _ _)
theorem argM_st (a : List TTm) (s : PS) : Stp e s (argM e a s).2 := termM_st s
theorem atomM_st (s : PS) : Stp e s (atomM e s).2 := (needK_st _ _).trans (listM_st argM_st _ _)
theorem cmpM_st (s : PS) : Stp e s (cmpM e s).2 := by
  have h : Stp e s (exprM e 20 (need1 e (exprM e 20 s).2 3)).2 := ((exprM_st _ _).trans (need1_st _ _)).trans (exprM_st _ _)
  unfold cmpM
  dsimp only
  split
  · exact h
  · exact ⟨(fun x hx => by simp [rfAt] at hx), Nat.zero_le _, fun h1 h2 => by unfold rfAt; dsimp only; split; exact nx_pos s h2; exact h.pos h1 h2, fun h1 => absurd h1 (rfAt_flt _ (by decide) _)⟩
theorem litM_st (s : PS) : Stp e s (litM e s).2 := by
  unfold litM
  split
  · exact (adv_st _).trans (atomM_st _)
  · split
    · exact atomM_st _
    · exact cmpM_st _
theorem bodyN_st : ∀ (k : Nat) (a : List TLt) (s : PS), Stp e s (bodyN e k a s).2
  | 0, _, s => by
    unfold bodyN
    dsimp only
    exact (rf_st _ (by decide)).trans (litM_st _)
  | k + 1, a, s => by
    unfold bodyN
    dsimp only
    split
    · exact ((litM_st _).trans (adv_st _)).trans (bodyN_st k _ _)
    · exact litM_st _
theorem bodyM_st (s : PS) : Stp e s (bodyM e s).2 := by
  unfold bodyM
  split
  · exact (adv_st _).trans (bodyN_st _ _ _)
  · exact .refl _
theorem itemT_st (x : TRu) (s : PS) : Stp e s (itemT e x s).2 := by
  unfold itemT
  split
  · exact termM_st _
  · split
    · exact termM_st _
    · exact (((adv_st _).trans (needT_st _ _)).trans (needK_st _ _)).trans (needT_st _ _)
theorem itemM_st (x : TRu) (s : PS) : Stp e s (itemM e x s).2 := itemT_st x s
theorem kindM_st (a : List Int) (s : PS) : Stp e s (kindM e a s).2 := need1_st s 1
/-- what is needed is taken, or nothing is left. -/
theorem needK_lt (s : PS) {k : Nat} (hk : k ≠ 0) (h : s.rest ≠ []) : (needK e s k).2.rest.length < s.rest.length := by
  unfold needK
  split
  · rename_i h1; exact nx_ltk h1 hk
  · exact List.length_pos_iff.2 h
theorem needT_lt (s : PS) {t : List UInt8} (ht : t ≠ []) (h : s.rest ≠ []) : (needT e s t).rest.length < s.rest.length := by
  unfold needT
  split
  · rename_i h1; exact nx_lt h1 ht
  · exact List.length_pos_iff.2 h
theorem headM_st (s : PS) : Stp e s (headM e s).2 := (needK_st _ _).trans (listM_st itemM_st _ _)
theorem ruleM_st (s : PS) : Stp e s (ruleM e s).2 := ((headM_st _).trans (bodyM_st _)).trans (needT_st _ _)
theorem declM_st (s : PS) : Stp e s (declM e s).2 := (((needT_st _ _).trans (needK_st _ _)).trans (listM_st kindM_st _ _)).trans (needT_st _ _)
theorem ruleM_lt (s : PS) (h : s.rest ≠ []) : (ruleM e s).2.rest.length < s.rest.length :=
  Nat.lt_of_le_of_lt ((listM_st itemM_st _ _).trans ((bodyM_st _).trans (needT_st _ _))).len (needK_lt (e := e) s (k := 2) (by decide) h)
theorem declM_lt (s : PS) (h : s.rest ≠ []) : (declM e s).2.rest.length < s.rest.length :=
  Nat.lt_of_le_of_lt ((needK_st _ _).trans ((listM_st kindM_st _ _).trans (needT_st _ _))).len (needT_lt (e := e) s (t := cRel) (by decide) h)
theorem progN_st : ∀ (n : Nat) (p : TPg) (s : PS), Stp e s (progN e n p s).2
  | 0, _, _ => .refl _
  | n + 1, p, s => by
    unfold progN
    split
    · exact .refl _
    · split
      · exact ((room_st _ _ _).trans (declM_st _)).trans (progN_st n _ _)
      · exact ((room_st _ _ _).trans (ruleM_st _)).trans (progN_st n _ _)
theorem decl_step {s : PS} (n m : Nat) (h : s.rest ≠ []) : (declM e (room e s n m)).2.rest.length < s.rest.length := by
  by_cases h1 : (room e s n m).rest = []
  · have := (declM_st (e := e) (room e s n m)).len
    rw [h1, List.length_nil] at this
    have := List.length_pos_iff.2 h
    omega
  · have h2 := declM_lt (e := e) _ h1
    have h3 := (room_st (e := e) s n m).len
    omega
theorem rule_step {s : PS} (n m : Nat) (h : s.rest ≠ []) : (ruleM e (room e s n m)).2.rest.length < s.rest.length := by
  by_cases h1 : (room e s n m).rest = []
  · have := (ruleM_st (e := e) (room e s n m)).len
    rw [h1, List.length_nil] at this
    have := List.length_pos_iff.2 h
    omega
  · have h2 := ruleM_lt (e := e) _ h1
    have h3 := (room_st (e := e) s n m).len
    omega
theorem progN_end : ∀ (n : Nat) (p : TPg) (s : PS), s.rest.length ≤ n → (progN e n p s).2.rest = []
  | 0, _, s, h => List.eq_nil_of_length_eq_zero (by unfold progN; simp only; omega)
  | n + 1, p, s, h => by
    unfold progN
    split
    · assumption
    · rename_i h0
      split
      · exact progN_end n _ _ (by have := decl_step (e := e) (s := s) p.decls.length 32 h0; omega)
      · exact progN_end n _ _ (by have := rule_step (e := e) (s := s) p.rules.length 64 h0; omega)
theorem progM_st (s : PS) : Stp e s (progM e s).2 := progN_st _ _ _
theorem progM_end (s : PS) : (progM e s).2.rest = [] := progN_end _ _ _ (Nat.le_refl _)
end
end Go.Proofs.YtolnikpihedmbaaGreatDoor

set_option linter.unusedVariables false
set_option linter.unusedSimpArgs false
namespace Go.Proofs.YtolnikpihedmbaaGreatDoor

/-- tokens whose texts are read as they. -/
def OkT (l : List Tk) : Prop := ∀ x ∈ l, tokOf kindW x.2.1 = some (x.1, x.2.1)
theorem OkT.sub {l l' : List Tk} (h : OkT l) (hs : ∀ x ∈ l', x ∈ l) : OkT l' := fun x hx => h x (hs x hx)
theorem OkT.st {e : Nat} {s s' : PS} (h : OkT s.rest) (hs : Stp e s s') : OkT s'.rest := h.sub hs.sub
theorem lexA_okT (o : Nat) (l : List UInt8) : OkT (lexA kindW o l).1 := fun x hx => (lexA_good o l x hx).alone
theorem lexA_asc (o : Nat) (l : List UInt8) : (∀ x ∈ (lexA kindW o l).1, o ≤ x.2.2) ∧ (lexA kindW o l).1.Pairwise (fun a b => a.2.2 < b.2.2) := by
  refine lexA_ind (kw := kindW) (P := fun o _ R => (∀ x ∈ R.1, o ≤ x.2.2) ∧ R.1.Pairwise (fun a b => a.2.2 < b.2.2)) (fun _ _ _ => ⟨fun x h => (by cases h), .nil⟩) (fun _ _ _ _ => ⟨fun x h => (by cases h), .nil⟩) (fun o l q t R _ ht hn hp _ hR => ?_) _ o l rfl
  have h3 : 0 < t.length := List.length_pos_iff.2 hn
  refine ⟨fun x hx => ?_, List.pairwise_cons.2 ⟨fun x hx => ?_, hR.2⟩⟩
  · rcases List.mem_cons.1 hx with rfl | hx
    · exact Nat.le_add_right _ _
    · have := hR.1 x hx
      omega
  · have := hR.1 x hx
    show o + skipN false l < x.2.2
    omega
theorem ok_kind {l : List UInt8} {q : Nat} (h : tokOf kindW l = some (q, l)) (h5 : q ≠ 5) : kindW l = q := by
  unfold tokOf at h
  split at h
  · rw [Option.map_eq_some_iff] at h
    obtain ⟨p, _, h⟩ := h
    injection h with h1
    exact absurd h1.symm h5
  · split at h
    · cases h
    · injection h with h
      injection h with h1 h2
      rw [h2] at h1
      exact h1
theorem ok_name {l : List UInt8} (h : tokOf kindW l = some (2, l)) : isName l = true := by
  have h1 := ok_kind h (by decide)
  unfold kindW at h1
  split at h1
  · cases h1
  · split at h1
    · assumption
    · split at h1
      · cases h1
      · split at h1 <;> cases h1
theorem ok_num {l : List UInt8} (h : tokOf kindW l = some (4, l)) : inRng (numV l) = true := by
  have h1 := ok_kind h (by decide)
  unfold kindW at h1
  split at h1
  · cases h1
  · split at h1
    · cases h1
    · split at h1
      · cases h1
      · split at h1
        · rename_i hp
          obtain ⟨n, hn⟩ := Option.isSome_iff_exists.1 hp
          obtain ⟨h2, h3⟩ := pv_some hn
          have h4 := atoi_num h2
          have e : (itoaB n).data.toList = Lib.itoa n := rfl
          rw [e, h3] at h4
          unfold numV
          rw [h4]
          exact h2
        · cases h1
theorem num_neg {n : Int} (h : inRng n = true) : inRng (-1 * n) = true ∧ inRng (1 * n) = true := by
  rw [inRng_iff] at h ⊢
  rw [inRng_iff]
  omega
section
variable {e : Nat}
theorem nx_mem {s : PS} {k : Nat} (h : (nx e s).1 = k) (hk : k ≠ 0) : nx e s ∈ s.rest := by
  unfold nx at h ⊢
  cases hr : s.rest with
  | nil => rw [hr] at h; exact absurd h.symm hk
  | cons x r => simp
theorem needK_good {s : PS} {k : Nat} (hk : k ≠ 0) (ho : OkT s.rest) (h : (needK e s k).2.flt = 0) : tokOf kindW (needK e s k).1 = some (k, (needK e s k).1) := by
  unfold needK at h ⊢
  by_cases h1 : (nx e s).1 = k
  · rw [if_pos h1]
    have := ho _ (nx_mem h1 hk)
    rw [h1] at this
    exact this
  · rw [if_neg h1] at h
    exact absurd h (rf_flt _ (by decide))
theorem needK_sole {s : PS} {k : Nat} (hk : k ≠ 0) (ho : OkT s.rest) (h : (needK e s k).2.flt = 0) : soleB k (bts (needK e s k).1) = true := by
  unfold soleB
  rw [bts_list]
  exact decide_eq_true (needK_good hk ho h)
theorem ne_size {q : Nat} {t : List UInt8} (h : tokOf kindW t = some (q, t)) : (bts t).size ≠ 0 := by
  rw [bts_size]
  have := (tok_text h).1
  exact fun h => this (List.eq_nil_of_length_eq_zero h)
theorem var_right {s : PS} (ho : OkT s.rest) (h : (needK e s 3).2.flt = 0) : rightTm ⟨bts (needK e s 3).1, 0, 0, noText⟩ = true ∧ (bts (needK e s 3).1).size ≠ 0 := by
  have h1 := ne_size (needK_good (by decide) ho h)
  refine ⟨?_, h1⟩
  unfold rightTm
  rw [if_neg h1, needK_sole (by decide) ho h]
  simp [zVal]
theorem termM_right {s : PS} (ho : OkT s.rest) (h : (termM e s).2.flt = 0) : rightTm (termM e s).1 = true := by
  unfold termM at h ⊢
  split at h
  · rename_i h3
    rw [if_pos h3]
    exact (var_right ho h).1
  · rename_i h3
    rw [if_neg h3]
    split at h
    · rename_i h2
      rw [if_pos h2]
      have h4 := ok_name (needK_good (by decide) ho h)
      unfold rightTm
      rw [if_pos (by rfl)]
      unfold isRight
      rw [if_neg (by show ¬ ((2 : Int) = 1); decide), if_pos rfl, bts_list, h4]
      rfl
    · rename_i h2
      rw [if_neg h2]
      have h4 := ok_num (needK_good (by decide) (ho.st (takeT_st s cMi)) h)
      unfold rightTm
      rw [if_pos (by rfl)]
      unfold isRight
      rw [if_pos rfl]
      show (true && inRng (numM e s).1) = true
      unfold numM
      dsimp only
      split
      · rw [(num_neg h4).1]; rfl
      · rw [(num_neg h4).2]; rfl
theorem listN_good {α : Type} {f : α → PS → α × PS} {P : Nat → α → Prop} (hst : ∀ a s, Stp e s (f a s).2) (hf : ∀ n a s, OkT s.rest → P n a → (f a s).2.flt = 0 → P (n + 1) (f a s).1) :
    ∀ (k n : Nat) (a : α) (s : PS), OkT s.rest → P n a → (listN e f k a s).2.flt = 0 → ∃ m, m ≤ n + k ∧ P m (listN e f k a s).1
  | 0, _, _, _, _, _, h => absurd h (rf_flt _ (by decide))
  | k + 1, n, a, s, ho, hP, h => by
    unfold listN at h ⊢
    dsimp only at h ⊢
    split
    · rename_i h1
      rw [if_pos h1] at h
      have h2 := ((listN_st hst k _ _).flt h).1
      obtain ⟨m, hm, hq⟩ := listN_good hst hf k (n + 1) _ _ (ho.st ((hst a s).trans (adv_st _))) (hf n a s ho hP h2) h
      exact ⟨m, by omega, hq⟩
    · rename_i h1
      rw [if_neg h1] at h
      split
      · rename_i h3
        rw [if_pos h3] at h
        exact ⟨n + 1, by omega, hf n a s ho hP h⟩
      · rename_i h3
        rw [if_neg h3] at h
        exact absurd h (rf_flt _ (by decide))
theorem listM_good {α : Type} {f : α → PS → α × PS} {P : Nat → α → Prop} (hst : ∀ a s, Stp e s (f a s).2) (hf : ∀ n a s, OkT s.rest → P n a → (f a s).2.flt = 0 → P (n + 1) (f a s).1)
    {a : α} {s : PS} (ho : OkT s.rest) (hP : P 0 a) (h : (listM e f a s).2.flt = 0) : ∃ m, m ≤ 6 ∧ P m (listM e f a s).1 := by
  unfold listM at h ⊢
  split
  · exact ⟨0, by decide, hP⟩
  · rename_i h1
    rw [if_neg h1] at h
    obtain ⟨m, hm, hq⟩ := listN_good hst hf 6 0 a _ (ho.st (needT_st s cLp)) hP h
    exact ⟨m, by omega, hq⟩
theorem all_snoc {α : Type} {p : α → Bool} {l : List α} {x : α} (h : l.all p = true) (hx : p x = true) : (l ++ [x]).all p = true := by rw [List.all_append, h]; simp [hx]
theorem atomM_right {s : PS} (ho : OkT s.rest) (h : (atomM e s).2.flt = 0) : rightAm (atomM e s).1 = true := by
  have h0 := ((listM_st (e := e) argM_st [] (needK e s 2).2).flt h).1
  obtain ⟨m, hm, hl, ha⟩ := listM_good (e := e) (f := argM e) (P := fun n a => a.length = n ∧ a.all rightTm = true) argM_st (fun n a s ho hP hf => ⟨by simp [argM, hP.1], all_snoc hP.2 (termM_right ho hf)⟩) (a := []) (ho.st (needK_st s 2)) ⟨rfl, rfl⟩ h
  unfold rightAm
  have h2 : (atomM e s).1.rel = bts (needK e s 2).1 := rfl
  have h3 : (atomM e s).1.args = (listM e (argM e) [] (needK e s 2).2).1 := rfl
  rw [h2, h3, needK_sole (by decide) ho h0, ha, decide_eq_true (by omega)]
  rfl
theorem one_bound {g : Nat} {t : List UInt8} (h : oneOf g t ≠ 0) : (g = 1 → oneOf g t ≤ 2) ∧ (g = 2 → oneOf g t ≤ 4) ∧ (g = 3 → oneOf g t ≤ 6) ∧ (g = 4 → oneOf g t ≤ 2) ∧ (g = 5 → oneOf g t = 3) := by
  unfold oneOf at h ⊢
  cases hw : wordsL.find? (fun w => decide (w.1 = g) && decide (w.2.1 = t)) with
  | none => rw [hw] at h; exact absurd rfl h
  | some w =>
    have h1 := List.mem_of_find?_eq_some hw
    have h2 := List.find?_some hw
    simp only [Bool.and_eq_true, decide_eq_true_eq] at h2
    obtain ⟨h2, _⟩ := h2
    dsimp only
    simp only [wordsL, List.mem_cons, List.not_mem_nil, or_false] at h1
    rcases h1 with rfl | rfl | rfl | rfl | rfl | rfl | rfl | rfl | rfl | rfl | rfl | rfl | rfl | rfl | rfl <;> (subst h2; decide)
theorem need1_good {s : PS} {g : Nat} (h : (need1 e s g).flt = 0) : got1 e s g ≠ 0 := by
  unfold need1 at h
  intro h0
  unfold got1 at h0
  rw [if_pos h0] at h
  exact absurd h (rf_flt _ (by decide))
theorem cmpM_right {s : PS} (h : (cmpM e s).2.flt = 0) : rightLt (cmpM e s).1 = true := by
  unfold cmpM at h ⊢
  dsimp only at h ⊢
  by_cases h1 : (rightE 20 (exprM e 20 s).1 && rightE 20 (exprM e 20 (need1 e (exprM e 20 s).2 3)).1) = true
  · rw [if_pos h1] at h
    have h2 := need1_good ((exprM_st 20 _).flt h).1
    have h3 := (one_bound h2).2.2.1 rfl
    unfold got1 at h2
    unfold rightLt
    dsimp only
    rw [if_neg (by omega), if_pos rfl, h1]
    have h4 : zeroAm ⟨noText, []⟩ = true := by decide
    rw [h4]
    have h5 : decide (1 ≤ (got1 e (exprM e 20 s).2 3 : Int) ∧ (got1 e (exprM e 20 s).2 3 : Int) ≤ 6) = true := decide_eq_true (by unfold got1; omega)
    rw [h5]
    rfl
  · rw [if_neg h1] at h
    exact absurd h (rfAt_flt _ (by decide) _)
theorem zz : zeroE zE = true := by decide
theorem litM_right {s : PS} (ho : OkT s.rest) (h : (litM e s).2.flt = 0) : rightLt (litM e s).1 = true := by
  unfold litM at h ⊢
  split
  · rename_i h1
    rw [if_pos h1] at h
    unfold rightLt
    dsimp only
    rw [if_pos (by decide), atomM_right (ho.st (adv_st (e := e) s)) h, zz]
    rfl
  · rename_i h1
    rw [if_neg h1] at h
    split
    · rename_i h2
      rw [if_pos h2] at h
      unfold rightLt
      dsimp only
      rw [if_pos (by decide), atomM_right ho h, zz]
      rfl
    · rename_i h2
      rw [if_neg h2] at h
      exact cmpM_right h
theorem bodyN_right (k : Nat) : ∀ (a : List TLt) (s : PS), OkT s.rest → a.length + k = 8 → a.all rightLt = true → (bodyN e k a s).2.flt = 0 → (bodyN e k a s).1.length ≤ 8 ∧ (bodyN e k a s).1.all rightLt = true := by
  induction k with
  | zero =>
    intro a s ho hl ha h
    have h1 : (litM e (rf e s 3)).2.flt = 0 := h
    exact absurd ((litM_st (e := e) (rf e s 3)).flt h1).1 (rf_flt s (by decide))
  | succ k ih =>
    intro a s ho hl ha h
    have e0 : bodyN e (k + 1) a s = if isT e (litM e s).2 cCo = true then bodyN e k (a ++ [(litM e s).1]) (adv (litM e s).2) else (a ++ [(litM e s).1], (litM e s).2) := rfl
    rw [e0] at h ⊢
    by_cases h1 : isT e (litM e s).2 cCo = true
    · rw [if_pos h1] at h ⊢
      have h2 : (litM e s).2.flt = 0 := ((bodyN_st k _ _).flt h).1
      exact ih _ _ (ho.st ((litM_st s).trans (adv_st _))) (by simp; omega) (all_snoc ha (litM_right ho h2)) h
    · rw [if_neg h1] at h ⊢
      exact ⟨by simp; omega, all_snoc ha (litM_right ho h)⟩
theorem bodyM_right {s : PS} (ho : OkT s.rest) (h : (bodyM e s).2.flt = 0) : (bodyM e s).1.length ≤ 8 ∧ (bodyM e s).1.all rightLt = true := by
  unfold bodyM at h ⊢
  split
  · rename_i h1
    rw [if_pos h1] at h
    exact bodyN_right 8 [] _ (ho.st (adv_st (e := e) s)) rfl rfl h
  · exact ⟨Nat.zero_le _, rfl⟩
/-- what is known of a head within its list. -/
structure HdP (nm : ByteArray) (at_ : Int) (n : Nat) (x : TRu) : Prop where
  rel : x.head.rel = nm
  len : x.head.args.length = n
  all : x.head.args.all rightTm = true
  body : x.body = []
  pos : x.pos = at_
  agg : (x.agg = 0 ∧ x.col = 0) ∨ (1 ≤ x.agg ∧ x.agg ≤ 4 ∧ ∃ i : Nat, x.col = i ∧ ∃ t, x.head.args[i]? = some t ∧ t.v.size ≠ 0)
theorem HdP.step {nm : ByteArray} {at_ : Int} {n : Nat} {x : TRu} {s : PS} (ho : OkT s.rest) (h : HdP nm at_ n x) (hf : (itemM e x s).2.flt = 0) : HdP nm at_ (n + 1) (itemM e x s).1 := by
  have hf' : (itemT e x s).2.flt = 0 := hf
  have e0 : (itemM e x s).1 = { x with head := ⟨x.head.rel, x.head.args ++ [(itemT e x s).1.1]⟩, agg := (itemT e x s).1.2.1, col := (itemT e x s).1.2.2 } := rfl
  have snoc : ∀ {i : Nat} {t u : TTm}, x.head.args[i]? = some t → (x.head.args ++ [u])[i]? = some t := fun {i t u} h => by
    rw [List.getElem?_append_left (List.getElem?_eq_some_iff.1 h).1]; exact h
  unfold itemT at hf' e0
  by_cases h1 : x.agg ≠ 0
  · simp only [if_pos h1] at hf' e0
    rw [e0]
    refine ⟨h.rel, by simp [h.len], all_snoc h.all (termM_right ho hf'), h.body, h.pos, ?_⟩
    rcases h.agg with h2 | ⟨h2, h3, i, h4, t, h5, h6⟩
    · exact absurd h2.1 h1
    · exact .inr ⟨h2, h3, i, h4, t, snoc h5, h6⟩
  · simp only [if_neg h1] at hf' e0
    have h0 : x.agg = 0 := by
      by_cases h9 : x.agg = 0
      · exact h9
      · exact absurd h9 h1
    have hc : x.col = 0 := by
      rcases h.agg with h2 | ⟨h2, _⟩
      · exact h2.2
      · omega
    by_cases h2 : got1 e s 2 = 0
    · simp only [if_pos h2] at hf' e0
      rw [e0]
      exact ⟨h.rel, by simp [h.len], all_snoc h.all (termM_right ho hf'), h.body, h.pos, .inl ⟨rfl, hc⟩⟩
    · simp only [if_neg h2] at hf' e0
      have h3 := ((needT_st _ _).flt hf').1
      have ho2 := ho.st ((adv_st (e := e) s).trans (needT_st (e := e) _ cLp))
      obtain ⟨h4, h5⟩ := var_right ho2 h3
      have h6 := (one_bound h2).2.1 rfl
      rw [e0]
      refine ⟨h.rel, by simp [h.len], all_snoc h.all h4, h.body, h.pos, .inr ⟨?_, ?_, x.head.args.length, rfl, _, List.getElem?_concat_length, h5⟩⟩
      · show (1 : Int) ≤ (got1 e s 2 : Int); omega
      · show (got1 e s 2 : Int) ≤ 4; unfold got1; omega
theorem ruleM_right {s : PS} (ho : OkT s.rest) (h : (ruleM e s).2.flt = 0) : rightRu (ruleM e s).1 = true ∧ (ruleM e s).1.pos = (nx e s).2.2 := by
  have hb := ((needT_st (e := e) (bodyM e (headM e s).2).2 cPt).flt h).1
  have hh := ((bodyM_st (e := e) (headM e s).2).flt hb).1
  have hk := ((listM_st (e := e) itemM_st ⟨⟨bts (needK e s 2).1, []⟩, 0, 0, [], (nx e s).2.2⟩ (needK e s 2).2).flt hh).1
  obtain ⟨m, hm, hP⟩ := listM_good (e := e) (f := itemM e) (P := HdP (bts (needK e s 2).1) (nx e s).2.2) itemM_st (fun n a s ho hP hf => hP.step ho hf) (a := ⟨⟨bts (needK e s 2).1, []⟩, 0, 0, [], (nx e s).2.2⟩) (ho.st (needK_st s 2)) ⟨rfl, rfl, rfl, rfl, rfl, .inl ⟨rfl, rfl⟩⟩ hh
  have hP' : HdP (bts (needK e s 2).1) (nx e s).2.2 m (headM e s).1 := hP
  obtain ⟨hl, ha⟩ := bodyM_right (ho.st (headM_st s)) hb
  have e0 : (ruleM e s).1 = { (headM e s).1 with body := (bodyM e (headM e s).2).1 } := rfl
  rw [e0]
  refine ⟨?_, hP'.pos⟩
  unfold rightRu rightAm
  dsimp only
  rw [hP'.rel, needK_sole (by decide) ho hk, hP'.all, ha, decide_eq_true (by rw [hP'.len]; exact hm), decide_eq_true hl]
  have : aggB { (headM e s).1 with body := (bodyM e (headM e s).2).1 } = true := by
    unfold aggB
    dsimp only
    rcases hP'.agg with h2 | ⟨h2, h3, i, h4, t, h5, h6⟩
    · rw [if_pos h2]
    · rw [if_neg (by omega), h4, Int.toNat_natCast, h5, decide_eq_true (by omega)]
      simp [h6]
  rw [this]
  rfl
theorem declM_right {s : PS} (ho : OkT s.rest) (h : (declM e s).2.flt = 0) : rightDe (declM e s).1 = true := by
  have hq := ((needT_st (e := e) (listM e (kindM e) [] (needK e (needT e s cRel) 2).2).2 cPt).flt h).1
  have hk := ((listM_st (e := e) kindM_st [] (needK e (needT e s cRel) 2).2).flt hq).1
  obtain ⟨m, hm, hl, ha⟩ := listM_good (e := e) (f := kindM e) (P := fun n a => a.length = n ∧ a.all kindB = true) kindM_st (fun n a s ho hP hf => ⟨by simp [kindM, hP.1], by
    have h1 := need1_good hf
    have h2 := (one_bound h1).1 rfl
    refine all_snoc hP.2 ?_
    unfold kindB
    unfold got1 at h1 ⊢
    exact decide_eq_true (by omega)⟩) (a := []) (ho.st ((needT_st s cRel).trans (needK_st _ 2))) ⟨rfl, rfl⟩ hq
  unfold rightDe
  have h2 : (declM e s).1.rel = bts (needK e (needT e s cRel) 2).1 := rfl
  have h3 : (declM e s).1.kinds = (listM e (kindM e) [] (needK e (needT e s cRel) 2).2).1 := rfl
  rw [h2, h3, needK_sole (by decide) (ho.st (needT_st s cRel)) hk, ha, decide_eq_true (by omega)]
  rfl
theorem room_flt {s : PS} {n m : Nat} (h : (room e s n m).flt = 0) : n ≠ m ∧ room e s n m = s := by
  unfold room at h ⊢
  by_cases h1 : n = m
  · rw [if_pos h1] at h; exact absurd h (rf_flt _ (by decide))
  · rw [if_neg h1]; exact ⟨h1, rfl⟩
/-- rules in the order of their places, all ahead of what is left. -/
structure PgP (e : Nat) (p : TPg) (s : PS) : Prop where
  decls : p.decls.length ≤ 32 ∧ p.decls.all rightDe = true
  rules : p.rules.length ≤ 64 ∧ p.rules.all rightRu = true
  asc : p.rules.Pairwise (fun a b => a.pos < b.pos)
  ahead : ∀ r ∈ p.rules, 0 ≤ r.pos ∧ r.pos < e ∧ ∀ x ∈ s.rest, r.pos < x.2.2
theorem progN_right : ∀ (n : Nat) (p : TPg) (s : PS), OkT s.rest → s.rest.Pairwise (fun a b => a.2.2 < b.2.2) → (∀ x ∈ s.rest, x.2.2 < e) → PgP e p s → (progN e n p s).2.flt = 0 → PgP e (progN e n p s).1 (progN e n p s).2
  | 0, p, s, _, _, _, hP, _ => hP
  | n + 1, p, s, ho, hs, he, hP, h => by
    unfold progN at h ⊢
    split
    · exact hP
    · rename_i h0
      rw [if_neg h0] at h
      split
      · rename_i h1
        rw [if_pos h1] at h
        have h2 := ((progN_st n _ _).flt h).1
        obtain ⟨h3, h4⟩ := room_flt ((declM_st _).flt h2).1
        rw [h4] at h h2 ⊢
        have hst := declM_st (e := e) s
        refine progN_right n _ _ (ho.st hst) (hs.sublist (hst.flt h2).2.sublist) (fun x hx => he x (hst.sub x hx)) ⟨⟨?_, all_snoc hP.decls.2 (declM_right ho h2)⟩, hP.rules, hP.asc, fun r hr => ⟨(hP.ahead r hr).1, (hP.ahead r hr).2.1, fun x hx => (hP.ahead r hr).2.2 x (hst.sub x hx)⟩⟩ h
        have := hP.decls.1
        simp
        omega
      · rename_i h1
        rw [if_neg h1] at h
        have h2 := ((progN_st n _ _).flt h).1
        obtain ⟨h3, h4⟩ := room_flt ((ruleM_st _).flt h2).1
        rw [h4] at h h2 ⊢
        have hst := ruleM_st (e := e) s
        obtain ⟨hr1, hr2⟩ := ruleM_right ho h2
        have hlt := ruleM_lt (e := e) s h0
        have hsuf := (hst.flt h2).2
        obtain ⟨y, ys, hy⟩ := List.exists_cons_of_ne_nil h0
        have hny : nx e s = y := by unfold nx; rw [hy]; rfl
        rw [hny] at hr2
        have hb : ∀ x ∈ (ruleM e s).2.rest, y.2.2 < x.2.2 := by
          obtain ⟨pre, hpre⟩ := hsuf
          rw [hy] at hpre hs hlt
          cases pre with
          | nil => rw [List.nil_append] at hpre; rw [hpre] at hlt; exact absurd hlt (Nat.lt_irrefl _)
          | cons z zs =>
            rw [List.cons_append] at hpre
            injection hpre with hz hzs
            intro x hx
            exact (List.pairwise_cons.1 hs).1 x (by rw [← hzs]; exact List.mem_append_right _ hx)
        have hye : y.2.2 < e := he y (by rw [hy]; simp)
        refine progN_right n _ _ (ho.st hst) (hs.sublist hsuf.sublist) (fun x hx => he x (hst.sub x hx)) ⟨hP.decls, ⟨?_, all_snoc hP.rules.2 hr1⟩, ?_, ?_⟩ h
        · have := hP.rules.1
          simp
          omega
        · rw [List.pairwise_append]
          refine ⟨hP.asc, by simp, fun a ha b hb => ?_⟩
          simp only [List.mem_singleton] at hb
          subst hb
          rw [hr2]
          exact (hP.ahead a ha).2.2 y (by rw [hy]; simp)
        · intro r hr
          rcases List.mem_append.1 hr with hr | hr
          · exact ⟨(hP.ahead r hr).1, (hP.ahead r hr).2.1, fun x hx => (hP.ahead r hr).2.2 x (hst.sub x hx)⟩
          · simp only [List.mem_singleton] at hr
            subst hr
            rw [hr2]
            exact ⟨by omega, by omega, fun x hx => by have := hb x hx; omega⟩
theorem progM_right {l : List Tk} (ho : OkT l) (hs : l.Pairwise (fun a b => a.2.2 < b.2.2)) (he : ∀ x ∈ l, x.2.2 < e) (h : (progM e ⟨l, 0, 0⟩).2.flt = 0) :
    formedB (progM e ⟨l, 0, 0⟩).1 = true ∧ (progM e ⟨l, 0, 0⟩).1.rules.Pairwise (fun a b => a.pos < b.pos) ∧ ∀ r ∈ (progM e ⟨l, 0, 0⟩).1.rules, 0 ≤ r.pos ∧ r.pos < e := by
  have hP := progN_right (e := e) l.length ⟨[], []⟩ ⟨l, 0, 0⟩ ho hs he ⟨⟨by decide, rfl⟩, ⟨by decide, rfl⟩, .nil, fun r hr => by cases hr⟩ h
  have hP' : PgP e (progM e ⟨l, 0, 0⟩).1 (progM e ⟨l, 0, 0⟩).2 := hP
  refine ⟨?_, hP'.asc, fun r hr => ⟨(hP'.ahead r hr).1, (hP'.ahead r hr).2.1⟩⟩
  unfold formedB
  rw [decide_eq_true hP'.decls.1, decide_eq_true hP'.rules.1, hP'.decls.2, hP'.rules.2]
  rfl
end
end Go.Proofs.YtolnikpihedmbaaGreatDoor
