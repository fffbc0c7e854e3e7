/- What a program is made of, as data: terms, expressions, literals, rules; what is right, what is the same, variables, sizes. Conditions: none. -/
import Derived.Test.YtolnikpihedmbaaGreatDoorPbE
import Derived.Test.YtolnikpihedmbaaGreatDoorPbD
import Derived.Test.YtolnikpihedmbaaGreatDoorPbC
import Derived.Test.YtolnikpihedmbaaGreatDoorPbA
import Derived.Test.YtolnikpihedmbaaGreatDoorRows
import Derived.Test.YtolnikpihedmbaaGreatDoorPbB
import Derived.Test.YtolnikpihedmbaaGreatDoorPgA
import Derived.Test.YtolnikpihedmbaaGreatDoorShelf
import Derived.Test.YtolnikpihedmbaaGreatDoorShelfA

set_option linter.unusedVariables false
set_option linter.unusedSimpArgs false
namespace Go.Proofs.YtolnikpihedmbaaGreatDoor

mutual
/-- how many nodes. -/
def cntE : TEx → Nat
  | .mk _ _ ks => 1 + cntEs ks
def cntEs : List TEx → Nat
  | [] => 0
  | k :: ks => cntE k + cntEs ks
end
theorem cntEs_append : ∀ (a b : List TEx), cntEs (a ++ b) = cntEs a + cntEs b
  | [], b => by simp [cntEs]
  | k :: ks, b => by rw [List.cons_append, cntEs, cntEs, cntEs_append ks b]; omega
theorem cntE_pos (e : TEx) : 1 ≤ cntE e := by cases e; rw [cntE]; omega
theorem cntE_kid {e : TEx} {k : Nat} (h : k < e.kids.length) : cntE e.kids[k] < cntE e := by
  cases e with
  | mk o t ks =>
    change k < ks.length at h
    show cntE ks[k] < cntE (.mk o t ks)
    have h1 : cntEs ks = cntEs (ks.take k) + cntEs (ks.drop k) := by rw [← cntEs_append, List.take_append_drop]
    rw [List.drop_eq_getElem_cons h, cntEs] at h1
    rw [cntE]
    omega
mutual
/-- expressions that are the same. -/
def sameE : TEx → TEx → Bool
  | .mk o t ks, .mk o' t' ks' => decide (o = o') && (decide (t = t') && sameEs ks ks')
def sameEs : List TEx → List TEx → Bool
  | [], [] => true
  | k :: ks, k' :: ks' => sameE k k' && sameEs ks ks'
  | _, _ => false
end
def allTwo {α β : Type} (p : α → β → Bool) : List α → List β → Bool
  | [], [] => true
  | x :: xs, y :: ys => p x y && allTwo p xs ys
  | _, _ => false
def sameAm (a b : TAm) : Bool := decide (a.rel = b.rel) && decide (a.args = b.args)
def sameLt (a b : TLt) : Bool := decide (a.kind = b.kind) && (decide (a.op = b.op) && (sameAm a.atom b.atom && (sameE a.left b.left && sameE a.right b.right)))
def sameRu (a b : TRu) : Bool := sameAm a.head b.head && (decide (a.agg = b.agg ∧ a.col = b.col) && allTwo sameLt a.body b.body)
def sameDe (a b : TDe) : Bool := decide (a.rel = b.rel) && decide (a.kinds = b.kinds)
def samePg (a b : TPg) : Bool := allTwo sameDe a.decls b.decls && allTwo sameRu a.rules b.rules
theorem sameEs_two : ∀ (a b : List TEx), sameEs a b = allTwo sameE a b
  | [], [] => rfl
  | [], _ :: _ => rfl
  | _ :: _, [] => rfl
  | x :: xs, y :: ys => by rw [sameEs, allTwo, sameEs_two xs ys]
theorem sameE_eq (a b : TEx) : sameE a b = (decide (a.op = b.op) && (decide (a.t = b.t) && allTwo sameE a.kids b.kids)) := by
  cases a with
  | mk o t ks => cases b with
    | mk o' t' ks' => rw [sameE, sameEs_two]; rfl
theorem two_refl {α : Type} {p : α → α → Bool} : ∀ {l : List α}, (∀ x ∈ l, p x x = true) → allTwo p l l = true
  | [], _ => rfl
  | x :: xs, h => by rw [allTwo, h x (by simp), two_refl fun y hy => h y (by simp [hy])]; rfl
mutual
theorem sameE_refl : ∀ (e : TEx), sameE e e = true
  | .mk o t ks => by rw [sameE, sameEs_refl ks]; simp
theorem sameEs_refl : ∀ (l : List TEx), sameEs l l = true
  | [] => rfl
  | k :: ks => by rw [sameEs, sameE_refl k, sameEs_refl ks]; rfl
end
theorem sameAm_refl (a : TAm) : sameAm a a = true := by simp [sameAm]
theorem sameLt_refl (a : TLt) : sameLt a a = true := by simp [sameLt, sameAm_refl, sameE_refl]
theorem sameRu_refl (a : TRu) : sameRu a a = true := by simp [sameRu, sameAm_refl, two_refl (p := sameLt) fun x _ => sameLt_refl x]
theorem samePg_refl (a : TPg) : samePg a a = true := by simp [samePg, two_refl (p := sameRu) fun x _ => sameRu_refl x, two_refl (p := sameDe) fun x _ => by simp [sameDe]]
theorem two_len {α β : Type} {p : α → β → Bool} : ∀ {a : List α} {b : List β}, allTwo p a b = true → a.length = b.length
  | [], [], _ => rfl
  | [], _ :: _, h => by cases h
  | _ :: _, [], h => by cases h
  | x :: xs, y :: ys, h => by
    rw [allTwo, Bool.and_eq_true] at h
    rw [List.length_cons, List.length_cons, two_len h.2]
theorem two_step {α β : Type} {p : α → β → Bool} {a : List α} {b : List β} {k : Nat} (ha : k < a.length) (hb : k < b.length) : allTwo p (a.drop k) (b.drop k) = (p a[k] b[k] && allTwo p (a.drop (k + 1)) (b.drop (k + 1))) := by
  rw [List.drop_eq_getElem_cons ha, List.drop_eq_getElem_cons hb, allTwo]
theorem two_end {α β : Type} {p : α → β → Bool} {a : List α} {b : List β} {k : Nat} (ha : ¬ k < a.length) (hb : a.length = b.length) : allTwo p (a.drop k) (b.drop k) = true := by
  rw [List.drop_eq_nil_of_le (by omega), List.drop_eq_nil_of_le (by omega), allTwo]
end Go.Proofs.YtolnikpihedmbaaGreatDoor
