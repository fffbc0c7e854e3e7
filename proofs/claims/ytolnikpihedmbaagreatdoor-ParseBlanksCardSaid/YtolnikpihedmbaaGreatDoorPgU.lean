/- Places change nothing but places in what is read. Conditions: none. Tokens with other blanks and comments behind them are read as the same tokens. Conditions: none. ParseBlanks. Conditions: what is laid; texts of at most 2^47 bytes. Numbers that came in, read as a list. Conditions: the form's reach. -/
import Derived.Test.YtolnikpihedmbaaGreatDoorPbE
import Derived.Test.YtolnikpihedmbaaGreatDoorPgE
import Derived.Test.YtolnikpihedmbaaGreatDoorPbA
import Derived.Test.YtolnikpihedmbaaGreatDoorRows
import Derived.Test.YtolnikpihedmbaaGreatDoorPbZ
import Derived.Test.YtolnikpihedmbaaGreatDoorPbParYr
import Derived.Test.YtolnikpihedmbaaGreatDoorPbParY
import Derived.Test.YtolnikpihedmbaaGreatDoorPbParX
import Derived.Test.YtolnikpihedmbaaGreatDoorPbM
import Derived.Test.YtolnikpihedmbaaGreatDoorPbK
import Derived.Test.YtolnikpihedmbaaGreatDoorPbParI
import Derived.Test.YtolnikpihedmbaaGreatDoorPbJ
import Derived.Test.YtolnikpihedmbaaGreatDoorPbI
import Derived.Test.YtolnikpihedmbaaGreatDoorPbF
import Derived.Test.YtolnikpihedmbaaGreatDoorPbD
import Derived.Test.YtolnikpihedmbaaGreatDoorPbC
import Derived.Test.YtolnikpihedmbaaGreatDoorPbB
import Derived.Test.YtolnikpihedmbaaGreatDoorPgA
import Derived.Test.YtolnikpihedmbaaGreatDoorShelf
import Derived.Test.YtolnikpihedmbaaGreatDoorShelfA
import Derived.Test.YtolnikpihedmbaaGreatDoorPbH
import Derived.Test.YtolnikpihedmbaaGreatDoorPgH
import Derived.Test.YtolnikpihedmbaaGreatDoorPbG
import Derived.Test.YtolnikpihedmbaaGreatDoorPbParV
import Derived.Test.YtolnikpihedmbaaGreatDoorPbParT
import Derived.Test.YtolnikpihedmbaaGreatDoorPbParS
import Derived.Test.YtolnikpihedmbaaGreatDoorPbQ
import Derived.Test.YtolnikpihedmbaaGreatDoorPbParO
import Derived.Test.YtolnikpihedmbaaGreatDoorPbTermI
import Derived.Test.YtolnikpihedmbaaGreatDoorPbTermH
import Derived.Test.YtolnikpihedmbaaGreatDoorPbParLj
import Derived.Test.YtolnikpihedmbaaGreatDoorPgParLj
import Derived.Test.YtolnikpihedmbaaGreatDoorPbTermL
import Derived.Test.YtolnikpihedmbaaGreatDoorPbTermK
import Derived.Test.YtolnikpihedmbaaGreatDoorPbTermJ
import Derived.Test.YtolnikpihedmbaaGreatDoorPbT
import Derived.BigRegion
import Derived.Deep.Slices
import Derived.SizedLaws
set_option linter.unusedVariables false
set_option linter.unusedSimpArgs false
namespace Go.Proofs.YtolnikpihedmbaaGreatDoor

/-- without places. -/
def erT (x : Tk) : Tk := (x.1, x.2.1, 0)
def er (s : PS) : PS := ⟨s.rest.map erT, s.flt, 0⟩
def erLt (x : TLt) : TLt := { x with pos := 0 }
def erRu (r : TRu) : TRu := { r with body := r.body.map erLt, pos := 0 }
def erDe (d : TDe) : TDe := { d with pos := 0 }
def erPg (p : TPg) : TPg := ⟨p.decls.map erDe, p.rules.map erRu⟩
section
variable {e : Nat}
theorem nx_er (s : PS) : nx 0 (er s) = erT (nx e s) := by
  unfold nx er
  cases s.rest <;> rfl
theorem nx_er1 (s : PS) : (nx 0 (er s)).1 = (nx e s).1 := by rw [nx_er (e := e)]; rfl
theorem nx_er2 (s : PS) : (nx 0 (er s)).2.1 = (nx e s).2.1 := by rw [nx_er (e := e)]; rfl
theorem nx_er3 (s : PS) : (nx 0 (er s)).2.2 = 0 := by rw [nx_er (e := 0)]; rfl
theorem adv_er (s : PS) : adv (er s) = er (adv s) := by
  unfold adv er
  simp [List.map_tail]
theorem rfAt_er (s : PS) (f a : Nat) : rfAt (er s) f 0 = er (rfAt s f a) := by
  unfold rfAt er
  simp
theorem rf_er (s : PS) (f : Nat) : rf 0 (er s) f = er (rf e s f) := by
  unfold rf
  rw [nx_er3]
  exact rfAt_er _ _ _
theorem room_er (s : PS) (n m : Nat) : room 0 (er s) n m = er (room e s n m) := by
  unfold room
  split
  · exact rf_er _ _
  · rfl
theorem isT_er (s : PS) (t : List UInt8) : isT 0 (er s) t = isT e s t := by unfold isT; rw [nx_er2 (e := e)]
theorem needT_er (s : PS) (t : List UInt8) : needT 0 (er s) t = er (needT e s t) := by
  unfold needT
  rw [isT_er (e := e)]
  split
  · exact adv_er _
  · exact rf_er _ _
theorem takeT_er (s : PS) (t : List UInt8) : takeT 0 (er s) t = er (takeT e s t) := by
  unfold takeT
  rw [isT_er (e := e)]
  split
  · exact adv_er _
  · rfl
theorem needK_er (s : PS) (k : Nat) : needK 0 (er s) k = ((needK e s k).1, er (needK e s k).2) := by
  unfold needK
  rw [nx_er1 (e := e), nx_er2 (e := e)]
  split
  · rw [adv_er]
  · rw [rf_er (e := e)]
theorem got1_er (s : PS) (g : Nat) : got1 0 (er s) g = got1 e s g := by unfold got1; rw [nx_er2 (e := e)]
theorem need1_er (s : PS) (g : Nat) : need1 0 (er s) g = er (need1 e s g) := by
  unfold need1
  rw [nx_er2 (e := e)]
  split
  · exact rf_er _ _
  · exact adv_er _
theorem numM_er (s : PS) : numM 0 (er s) = ((numM e s).1, er (numM e s).2) := by
  unfold numM
  rw [isT_er (e := e), takeT_er (e := e), needK_er (e := e)]
theorem termM_er (s : PS) : termM 0 (er s) = ((termM e s).1, er (termM e s).2) := by
  unfold termM
  rw [nx_er1 (e := e), needK_er (e := e), needK_er (e := e), numM_er (e := e)]
  dsimp only
  split
  · rfl
  · split <;> rfl
theorem chainN_er {g : Nat} {p0 part : PS → TEx × PS} (hp : ∀ s, p0 (er s) = ((part s).1, er (part s).2)) : ∀ (n : Nat) (x : TEx) (s : PS), chainN 0 g p0 n x (er s) = ((chainN e g part n x s).1, er (chainN e g part n x s).2)
  | 0, _, _ => rfl
  | n + 1, x, s => by
    unfold chainN
    rw [got1_er (e := e), adv_er, hp]
    split
    · rfl
    · exact chainN_er hp n _ _
theorem chainM_er {g : Nat} {p0 part : PS → TEx × PS} (hp : ∀ s, p0 (er s) = ((part s).1, er (part s).2)) (s : PS) : chainM 0 g p0 (er s) = ((chainM e g part s).1, er (chainM e g part s).2) := by
  unfold chainM
  rw [hp]
  have : (er (part s).2).rest.length = (part s).2.rest.length := by simp [er]
  dsimp only
  rw [this]
  exact chainN_er hp _ _ _
theorem exprOf_er {p0 part : PS → TEx × PS} (hp : ∀ s, p0 (er s) = ((part s).1, er (part s).2)) (s : PS) : exprOf 0 p0 (er s) = ((exprOf e part s).1, er (exprOf e part s).2) := chainM_er (chainM_er hp) s
theorem operM_er : ∀ (d : Nat) (s : PS), operM 0 d (er s) = ((operM e d s).1, er (operM e d s).2)
  | 0, s => by
    unfold operM
    rw [isT_er (e := e), termM_er (e := e), rf_er (e := e)]
    split <;> rfl
  | d + 1, s => by
    unfold operM
    rw [isT_er (e := e), termM_er (e := e), adv_er, exprOf_er (e := e) (operM_er d)]
    dsimp only
    rw [needT_er (e := e)]
    split <;> rfl
theorem exprM_er (d : Nat) (s : PS) : exprM 0 d (er s) = ((exprM e d s).1, er (exprM e d s).2) := exprOf_er (operM_er d) s
theorem listN_er {α : Type} {E : α → α} {f0 f : α → PS → α × PS} (hf : ∀ a s, f0 (E a) (er s) = (E (f a s).1, er (f a s).2)) : ∀ (k : Nat) (a : α) (s : PS), listN 0 f0 k (E a) (er s) = (E (listN e f k a s).1, er (listN e f k a s).2)
  | 0, a, s => by
    unfold listN
    rw [rf_er (e := e), hf]
    dsimp only
    rw [rf_er (e := e)]
  | k + 1, a, s => by
    unfold listN
    rw [hf]
    dsimp only
    rw [isT_er (e := e), isT_er (e := e), adv_er, rf_er (e := e), listN_er hf k]
    split
    · rfl
    · split <;> rfl
theorem listM_er {α : Type} {E : α → α} {f0 f : α → PS → α × PS} (hf : ∀ a s, f0 (E a) (er s) = (E (f a s).1, er (f a s).2)) (a : α) (s : PS) : listM 0 f0 (E a) (er s) = (E (listM e f a s).1, er (listM e f a s).2) := by
  unfold listM
  rw [needT_er (e := e), isT_er (e := e), adv_er, listN_er hf]
  split <;> rfl
theorem argM_er (a : List TTm) (s : PS) : argM 0 a (er s) = ((argM e a s).1, er (argM e a s).2) := by
  unfold argM
  rw [termM_er (e := e)]
theorem atomM_er (s : PS) : atomM 0 (er s) = ((atomM e s).1, er (atomM e s).2) := by
  have h := listM_er (e := e) (E := id) (f0 := argM 0) (f := argM e) (fun a s => argM_er a s) [] (needK e s 2).2
  unfold atomM
  rw [needK_er (e := e)]
  dsimp only
  rw [show listM 0 (argM 0) [] (er (needK e s 2).2) = _ from h]
  rfl
theorem cmpM_er (s : PS) : cmpM 0 (er s) = (erLt (cmpM e s).1, er (cmpM e s).2) := by
  unfold cmpM
  rw [exprM_er (e := e)]
  dsimp only
  rw [need1_er (e := e), exprM_er (e := e), got1_er (e := e), nx_er3]
  dsimp only
  split
  · rfl
  · rw [rfAt_er]; rfl
theorem befM_er (s : PS) : befM 0 (er s) = befM e s := by
  unfold befM
  rw [nx_er1 (e := e)]
  congr 1
  unfold er
  rcases s.rest with _ | ⟨x, _ | ⟨y, r⟩⟩ <;> rfl
theorem litM_er (s : PS) : litM 0 (er s) = (erLt (litM e s).1, er (litM e s).2) := by
  unfold litM
  rw [isT_er (e := e), befM_er (e := e), adv_er, atomM_er (e := e), atomM_er (e := e), cmpM_er (e := e), nx_er3]
  dsimp only
  split
  · rfl
  · split <;> rfl
theorem bodyN_er (k : Nat) : ∀ (a : List TLt) (s : PS), bodyN 0 k (a.map erLt) (er s) = ((bodyN e k a s).1.map erLt, er (bodyN e k a s).2) := by
  induction k with
  | zero =>
    intro a s
    have e0 : ∀ (e : Nat) (a : List TLt) (s : PS), bodyN e 0 a s = (a ++ [(litM e (rf e s 3)).1], (litM e (rf e s 3)).2) := fun _ _ _ => rfl
    rw [e0, e0, rf_er (e := e), litM_er (e := e), List.map_append]
    rfl
  | succ k ih =>
    intro a s
    have e0 : ∀ (e : Nat) (a : List TLt) (s : PS), bodyN e (k + 1) a s = if isT e (litM e s).2 cCo = true then bodyN e k (a ++ [(litM e s).1]) (adv (litM e s).2) else (a ++ [(litM e s).1], (litM e s).2) := fun _ _ _ => rfl
    rw [e0, e0, litM_er (e := e)]
    dsimp only
    rw [isT_er (e := e), adv_er, show a.map erLt ++ [erLt (litM e s).1] = (a ++ [(litM e s).1]).map erLt by rw [List.map_append]; rfl, ih]
    split <;> rfl
theorem bodyM_er (s : PS) : bodyM 0 (er s) = ((bodyM e s).1.map erLt, er (bodyM e s).2) := by
  have h := bodyN_er (e := e) 8 [] (adv s)
  unfold bodyM
  rw [isT_er (e := e), adv_er, show bodyN 0 8 [] (er (adv s)) = _ from h]
  split <;> rfl
theorem itemT_er (x : TRu) (s : PS) : itemT 0 (erRu x) (er s) = ((itemT e x s).1, er (itemT e x s).2) := by
  unfold itemT
  rw [termM_er (e := e), got1_er (e := e), adv_er, needT_er (e := e), needK_er (e := e)]
  dsimp only
  rw [needT_er (e := e)]
  show (if x.agg ≠ 0 then _ else _) = _
  split
  · rfl
  · split <;> rfl
theorem itemM_er (x : TRu) (s : PS) : itemM 0 (erRu x) (er s) = (erRu (itemM e x s).1, er (itemM e x s).2) := by
  unfold itemM
  rw [itemT_er (e := e)]
  rfl
theorem headM_er (s : PS) : headM 0 (er s) = (erRu (headM e s).1, er (headM e s).2) := by
  have h := listM_er (e := e) (E := erRu) (f0 := itemM 0) (f := itemM e) (fun a s => itemM_er a s) ⟨⟨bts (needK e s 2).1, []⟩, 0, 0, [], (nx e s).2.2⟩ (needK e s 2).2
  unfold headM
  rw [needK_er (e := e), nx_er3]
  exact h
theorem ruleM_er (s : PS) : ruleM 0 (er s) = (erRu (ruleM e s).1, er (ruleM e s).2) := by
  unfold ruleM
  rw [headM_er (e := e)]
  dsimp only
  rw [bodyM_er (e := e)]
  dsimp only
  rw [needT_er (e := e)]
  rfl
theorem kindM_er (a : List Int) (s : PS) : kindM 0 a (er s) = ((kindM e a s).1, er (kindM e a s).2) := by
  unfold kindM
  rw [got1_er (e := e), need1_er (e := e)]
theorem declM_er (s : PS) : declM 0 (er s) = (erDe (declM e s).1, er (declM e s).2) := by
  have h := listM_er (e := e) (E := id) (f0 := kindM 0) (f := kindM e) (fun a s => kindM_er a s) [] (needK e (needT e s cRel) 2).2
  unfold declM
  rw [needT_er (e := e), needK_er (e := e), nx_er3]
  dsimp only
  rw [show listM 0 (kindM 0) [] (er (needK e (needT e s cRel) 2).2) = _ from h]
  dsimp only
  rw [needT_er (e := e)]
  rfl
theorem progN_er (n : Nat) : ∀ (p : TPg) (s : PS), progN 0 n (erPg p) (er s) = (erPg (progN e n p s).1, er (progN e n p s).2) := by
  induction n with
  | zero => intro p s; rfl
  | succ n ih =>
    intro p s
    have e0 : ∀ (e : Nat) (p : TPg) (s : PS), progN e (n + 1) p s = if s.rest = [] then (p, s) else if isT e s cRel = true then progN e n ⟨p.decls ++ [(declM e (room e s p.decls.length 32)).1], p.rules⟩ (declM e (room e s p.decls.length 32)).2
      else progN e n ⟨p.decls, p.rules ++ [(ruleM e (room e s p.rules.length 64)).1]⟩ (ruleM e (room e s p.rules.length 64)).2 := fun _ _ _ => rfl
    rw [e0, e0]
    have h1 : (er s).rest = [] ↔ s.rest = [] := by simp [er]
    have h2 : (erPg p).decls.length = p.decls.length := by simp [erPg]
    have h3 : (erPg p).rules.length = p.rules.length := by simp [erPg]
    have h4 : ∀ d : TDe, (⟨(erPg p).decls ++ [erDe d], (erPg p).rules⟩ : TPg) = erPg ⟨p.decls ++ [d], p.rules⟩ := fun d => by simp [erPg]
    have h5 : ∀ d : TRu, (⟨(erPg p).decls, (erPg p).rules ++ [erRu d]⟩ : TPg) = erPg ⟨p.decls, p.rules ++ [d]⟩ := fun d => by simp [erPg]
    rw [h2, h3, isT_er (e := e), room_er (e := e), room_er (e := e), declM_er (e := e), ruleM_er (e := e), h4, h5, ih, ih]
    by_cases h0 : s.rest = []
    · rw [if_pos (h1.2 h0), if_pos h0]
    · rw [if_neg (fun h => h0 (h1.1 h)), if_neg h0]
      split <;> rfl
theorem progM_er (s : PS) : progM 0 (er s) = (erPg (progM e s).1, er (progM e s).2) := by
  have h := progN_er (e := e) s.rest.length ⟨[], []⟩ s
  unfold progM
  rw [show (er s).rest.length = s.rest.length by simp [er]]
  exact h
end
theorem two_map {α β : Type} {p : β → β → Bool} {f : α → β} : ∀ (l l' : List α), allTwo p (l.map f) (l'.map f) = allTwo (fun a b => p (f a) (f b)) l l'
  | [], [] => rfl
  | [], _ :: _ => rfl
  | _ :: _, [] => rfl
  | x :: xs, y :: ys => by rw [List.map_cons, List.map_cons, allTwo, allTwo, two_map xs ys]
theorem sameRu_er (a b : TRu) : sameRu (erRu a) (erRu b) = sameRu a b := by
  unfold sameRu
  show (sameAm a.head b.head && (decide (a.agg = b.agg ∧ a.col = b.col) && allTwo sameLt (a.body.map erLt) (b.body.map erLt))) = _
  rw [two_map]
  rfl
theorem samePg_er (a b : TPg) : samePg (erPg a) (erPg b) = samePg a b := by
  unfold samePg
  show (allTwo sameDe (a.decls.map erDe) (b.decls.map erDe) && allTwo sameRu (a.rules.map erRu) (b.rules.map erRu)) = _
  rw [two_map, two_map]
  congr 2
  funext a b
  exact sameRu_er a b
/-- of the same tokens at whatever places the same is read. -/
theorem progM_two {e e' : Nat} {l l' : List Tk} (h : l.map (fun x => (x.1, x.2.1)) = l'.map fun x => (x.1, x.2.1)) :
    samePg (progM e ⟨l, 0, 0⟩).1 (progM e' ⟨l', 0, 0⟩).1 = true ∧ (progM e ⟨l, 0, 0⟩).2.flt = (progM e' ⟨l', 0, 0⟩).2.flt := by
  have h0 : l.map erT = l'.map erT := by
    have h1 : ∀ m : List Tk, m.map erT = (m.map fun x => (x.1, x.2.1)).map fun y => (y.1, y.2, 0) := fun m => by rw [List.map_map]; rfl
    rw [h1 l, h1 l', h]
  have h1 := progM_er (e := e) ⟨l, 0, 0⟩
  have h2 := progM_er (e := e') ⟨l', 0, 0⟩
  have h3 : er ⟨l, 0, 0⟩ = er ⟨l', 0, 0⟩ := by unfold er; rw [h0]
  rw [h3, h2] at h1
  injection h1 with h4 h5
  refine ⟨?_, ?_⟩
  · rw [← samePg_er, h4]
    exact samePg_refl _
  · have := congrArg PS.flt h5
    exact this.symm
end Go.Proofs.YtolnikpihedmbaaGreatDoor

set_option linter.unusedVariables false
set_option linter.unusedSimpArgs false
namespace Go.Proofs.YtolnikpihedmbaaGreatDoor

/-- the four gaps. -/
def gapL : List (List UInt8) := [[32], [10], [37, 120, 10], [9, 32, 13]]
def gapN (g : Nat) : List UInt8 := gapL[g % 4]?.getD [32]
/-- the texts of tokens, each with its gap behind it. -/
def blT (G : Nat → Nat) : Nat → List Tk → List UInt8
  | _, [] => []
  | k, x :: L => x.2.1 ++ (gapN (G k) ++ blT G (k + 1) L)
theorem blT_append (G : Nat → Nat) : ∀ (L : List Tk) (k : Nat) (x : Tk), blT G k (L ++ [x]) = blT G k L ++ (x.2.1 ++ gapN (G (k + L.length)))
  | [], k, x => by simp [blT]
  | y :: L, k, x => by
    rw [List.cons_append, blT, blT, blT_append G L (k + 1) x]
    simp only [List.append_assoc, List.length_cons]
    rw [show k + 1 + L.length = k + (L.length + 1) by omega]
theorem blT_snoc {G : Nat → Nat} {L : List Tk} {k : Nat} (h : k < L.length) : blT G 0 (L.take (k + 1)) = blT G 0 (L.take k) ++ (L[k].2.1 ++ gapN (G k)) := by
  rw [List.take_succ_eq_append_getElem h, blT_append, List.length_take, Nat.zero_add, Nat.min_eq_left (by omega)]
theorem gap_cases (g : Nat) : gapN g = [32] ∨ gapN g = [10] ∨ gapN g = [37, 120, 10] ∨ gapN g = [9, 32, 13] := by
  unfold gapN
  have h : g % 4 = 0 ∨ g % 4 = 1 ∨ g % 4 = 2 ∨ g % 4 = 3 := by omega
  rcases h with h | h | h | h <;> rw [h] <;> simp [gapL]
section
variable {kw : List UInt8 → Nat}
theorem sign_more {p : List UInt8} (h : p ∈ signsL) {c : UInt8} (hc : c = 32 ∨ c = 10 ∨ c = 37 ∨ c = 9) (r : List UInt8) : signOf (p ++ c :: r) = some p := by
  simp only [signsL, List.mem_cons, List.not_mem_nil, or_false] at h
  rcases hc with rfl | rfl | rfl | rfl <;> rcases h with rfl | rfl | rfl | rfl | rfl | rfl | rfl | rfl | rfl | rfl | rfl | rfl | rfl | rfl <;> rfl
theorem tok_more {t : List UInt8} {q : Nat} (h : tokOf kw t = some (q, t)) {c : UInt8} (hc : c = 32 ∨ c = 10 ∨ c = 37 ∨ c = 9) (r : List UInt8) : tokOf kw (t ++ c :: r) = some (q, t) := by
  have hw : wb c = false := by rcases hc with rfl | rfl | rfl | rfl <;> decide
  unfold tokOf at h
  split at h
  · rw [Option.map_eq_some_iff] at h
    obtain ⟨p, hp, h2⟩ := h
    injection h2 with h1 h2
    subst h1
    subst h2
    obtain ⟨d, r', rfl, hd, _, _⟩ := sign_head (sign_mem hp).1
    unfold tokOf
    rw [if_pos (by simp [hd]), sign_more (sign_mem hp).1 hc]
    rfl
  · rename_i hn
    split at h
    · cases h
    · rename_i hk
      injection h with h
      injection h with h1 h2
      have hall : ∀ x ∈ t, wb x = true := fun x hx => by rw [← h2] at hx; exact mem_takeWhile hx
      rw [h2] at hk h1 hn
      unfold tokOf
      rw [takeWhile_more hw hall, if_neg hn, if_neg hk, h1]
theorem gap_skip (g : Nat) (r : List UInt8) : skipN false (gapN g ++ r) = (gapN g).length + skipN false r := by
  rcases gap_cases g with h | h | h | h <;> rw [h]
  · have : skipN false ([32] ++ r) = skipN false r + 1 := rfl
    simp only [List.length_cons, List.length_nil]
    omega
  · have : skipN false ([10] ++ r) = skipN false r + 1 := rfl
    simp only [List.length_cons, List.length_nil]
    omega
  · have : skipN false ([37, 120, 10] ++ r) = skipN false r + 1 + 1 + 1 := rfl
    simp only [List.length_cons, List.length_nil]
    omega
  · have : skipN false ([9, 32, 13] ++ r) = skipN false r + 1 + 1 + 1 := rfl
    simp only [List.length_cons, List.length_nil]
    omega
theorem gap_head (g : Nat) : ∃ c r, gapN g = c :: r ∧ (c = 32 ∨ c = 10 ∨ c = 37 ∨ c = 9) := by
  rcases gap_cases g with h | h | h | h
  · exact ⟨_, _, h, .inl rfl⟩
  · exact ⟨_, _, h, .inr (.inl rfl)⟩
  · exact ⟨_, _, h, .inr (.inr (.inl rfl))⟩
  · exact ⟨_, _, h, .inr (.inr (.inr rfl))⟩
theorem lexA_gapped (G : Nat → Nat) : ∀ (L : List Tk) (k o : Nat), (∀ x ∈ L, Tokd kw x.1 x.2.1) →
    ((lexA kw o (blT G k L)).1.map fun x => (x.1, x.2.1)) = L.map (fun x => (x.1, x.2.1)) ∧ (lexA kw o (blT G k L)).2 = none
  | [], k, o, _ => by
    rw [show blT G k [] = [] from rfl, lexA_end (by simp)]
    exact ⟨rfl, rfl⟩
  | x :: L, k, o, h => by
    obtain ⟨q, t, a⟩ := x
    have ht := h (q, t, a) (by simp)
    simp only at ht
    obtain ⟨c, r, e⟩ := List.exists_cons_of_ne_nil ht.ne
    obtain ⟨hb, hp⟩ := ht.head c r e
    obtain ⟨d, m, hg, hd⟩ := gap_head (G k)
    have ej : blT G k ((q, t, a) :: L) = t ++ d :: (m ++ blT G (k + 1) L) := by rw [blT, hg]; simp
    rw [ej]
    have hs : skipN false (t ++ d :: (m ++ blT G (k + 1) L)) = 0 := by rw [e]; exact skip_no hb hp
    have hdr : (t ++ d :: (m ++ blT G (k + 1) L)).drop (skipN false (t ++ d :: (m ++ blT G (k + 1) L))) = t ++ d :: (m ++ blT G (k + 1) L) := by rw [hs]; rfl
    have e2 : d :: (m ++ blT G (k + 1) L) = gapN (G k) ++ blT G (k + 1) L := by rw [hg]; rfl
    rw [lexA_tok (by rw [hdr]; simp) (by rw [hdr]; exact tok_more ht.alone hd _), hdr, List.drop_left, e2,
      lexA_skip (k := (gapN (G k)).length) (l := gapN (G k) ++ blT G (k + 1) L) (hs := by rw [List.drop_left]; exact gap_skip _ _), List.drop_left]
    obtain ⟨h1, h2⟩ := lexA_gapped G L (k + 1) (o + skipN false (t ++ (gapN (G k) ++ blT G (k + 1) L)) + t.length + (gapN (G k)).length) (fun x hx => h x (by simp [hx]))
    exact ⟨by rw [List.map_cons, List.map_cons, h1], h2⟩
end
end Go.Proofs.YtolnikpihedmbaaGreatDoor

set_option linter.unusedVariables false
set_option linter.unusedSimpArgs false
namespace Go.Proofs.YtolnikpihedmbaaGreatDoor
open Go.RowKit Go.Deep Go.Shelf

/-- numbers in a row. -/
def Gaps (w : World) (A : Option Addr) (l : List Int) : Prop := 0 < l.length → ∃ b o, A = some ⟨b, o, none⟩ ∧ b < w.heap.size ∧ ∀ (i : Nat) z, l[i]? = some z → w.cell? ⟨b, o + i, none⟩ = some (.int .i64 z)
theorem Gaps.below {w w' : World} {A : Option Addr} {l : List Int} (h : Gaps w A l) (hb : Below w.heap.size w w') : Gaps w' A l := fun h0 => by
  obtain ⟨b, o, h1, h2, h3⟩ := h h0
  exact ⟨b, o, h1, Nat.lt_of_lt_of_le h2 hb.size, fun i z hz => (hb.cell (p := ⟨b, _, none⟩) h2).trans (h3 i z hz)⟩
/-- which gap stands behind a token. -/
theorem bts_cat (a b : List UInt8) : bts a ++ bts b = bts (a ++ b) := by
  apply ByteArray.ext
  simp [bts]
theorem wrap_u64 (z : Int) : IntKind.u64.wrap z = z % 18446744073709551616 := by
  unfold IntKind.wrap
  rw [if_neg (by simp [IntKind.signed])]
  rfl
theorem gap_wrap (z : Int) : wrap64 ((IntKind.u64.wrap z).tmod 4) = (((z % 18446744073709551616) % 4).toNat : Int) := by
  rw [wrap_u64]
  have h0 : 0 ≤ z % 18446744073709551616 := Int.emod_nonneg _ (by decide)
  rw [Int.tmod_eq_emod_of_nonneg h0]
  unfold wrap64
  omega
def SameOk : Prop := ∀ (x y : TPg) (A : Option Addr) (c : Nat) (B : Option Addr) (d : Nat) (A' : Option Addr) (c' : Nat) (B' : Option Addr) (d' : Nat) (w : World), PgV w x A B → PgV w y A' B' →
  Calls Tryz.prog 10 #[.agg #[.slice A x.decls.length c, .slice B x.rules.length d], .agg #[.slice A' y.decls.length c', .slice B' y.rules.length d']] w fun r w' => r = .returned (.bool (samePg x y)) ∧ Below w.heap.size w w'
def gapG (gs : List Int) (k : Nat) : Nat := match gs[k]? with | some z => ((z % 18446744073709551616) % 4).toNat | none => 0
theorem gapG_lt (gs : List Int) (k : Nat) : gapG gs k < 4 := by
  unfold gapG
  cases gs[k]? with
  | none => decide
  | some z => show ((z % 18446744073709551616) % 4).toNat < 4; omega
/-- a text and its tokens with other gaps: the same is read. -/
theorem blanks_same {s : ByteArray} {L : List Tk} {G : Nat → Nat} (h1 : (ansOf s).2.1 = 0) (hL : (ansOf s).1 = L) (hz : (bts (blT G 0 L)).size ≤ 4000) :
    (resP s).2.2 = (resP (bts (blT G 0 L))).2.2 ∧ samePg (resP s).1 (resP (bts (blT G 0 L))).1 = true := by
  obtain ⟨ht, hs4, hL0, hn⟩ := ans_toks h1
  have hLL : L = (lexA kindW 0 s.data.toList).1 := by rw [← hL, hL0]
  obtain ⟨g1, g2⟩ := lexA_gapped (kw := kindW) G L 0 0 (fun x hx => lexA_good (kw := kindW) 0 s.data.toList x (by rw [← hLL]; exact hx))
  have hT : ansOf (bts (blT G 0 L)) = ((lexA kindW 0 (blT G 0 L)).1, 0, 0) := by
    unfold ansOf
    rw [if_neg (by omega), bts_list, g2]
  generalize bts (blT G 0 L) = T at *
  have hp := progM_two (e := s.size) (e' := T.size) (l := (ansOf s).1) (l' := (ansOf T).1) (by rw [hT, hL]; exact g1.symm)
  unfold resP
  rw [if_neg (by rw [h1]; simp), if_neg (by rw [hT]; simp)]
  obtain ⟨p1, p2⟩ := hp
  generalize progM s.size ⟨(ansOf s).1, 0, 0⟩ = q at *
  generalize progM T.size ⟨(ansOf T).1, 0, 0⟩ = q' at *
  unfold resQ
  by_cases hf : q.2.flt ≠ 0
  · rw [if_pos hf, if_pos (by rw [← p2]; exact hf)]
    exact ⟨by show ((q.2.flt : Nat) : Int) = ((q'.2.flt : Nat) : Int); rw [p2], rfl⟩
  · rw [if_neg hf, if_neg (by rw [← p2]; exact hf)]
    exact ⟨rfl, p1⟩
theorem le_sum : ∀ {l : List Nat} {x : Nat}, x ∈ l → x ≤ l.sum
  | y :: l, x, h => by
    rw [List.sum_cons]
    rcases List.mem_cons.1 h with rfl | h
    · omega
    · have := le_sum h
      omega
theorem blT_len (G : Nat → Nat) : ∀ (L : List Tk) (k : Nat), (blT G k L).length ≤ (L.map fun x => x.2.1.length).sum + 3 * L.length
  | [], k => by simp [blT]
  | x :: L, k => by
    have h1 := blT_len G L (k + 1)
    have h2 : (gapN (G k)).length ≤ 3 := by rcases gap_cases (G k) with h | h | h | h <;> rw [h] <;> decide
    rw [blT, List.length_append, List.length_append, List.map_cons, List.sum_cons, List.length_cons]
    omega
set_option maxRecDepth 100000 in
set_option maxHeartbeats 8000000 in
theorem blanks6_walk (s : ByteArray) (G : Option Addr) (gc : Nat) (gs : List Int) (w : World) (hs : s.size ≤ maxLen) (hG : Gaps w G gs) (h : Rdy w) (hSame : SameOk) :
    Calls Tryz.prog 4 #[.string s, .slice G gs.length gc] w fun r w' => r = .returned (.bool true) ∧ Below w.heap.size w w' := by
  have HAl := Lib.hid (alive6 w h)
  have HGp := Lib.hid hG
  have HRA := Lib.hid (fun W => refAll_any s W hs)
  have HPa := Lib.hid (fun T W (hT : T.size ≤ maxLen) (hb : Below w.heap.size w W) => Parse_any T W hT (h.below hb))
  have HS := Lib.hid hs
  unfold maxLen at hs
  have HLn : Hid ((ansOf s).2.1 = 0 → (((ansOf s).1.map fun x => x.2.1.length).sum ≤ s.size ∧ (ansOf s).1.length ≤ s.size)) := fun h0 => by
    obtain ⟨_, _, hL0, _⟩ := ans_toks h0
    have := lexA_len (kw := kindW) 0 s.data.toList
    simp only [show s.data.toList.length = s.size by simp] at this
    rw [hL0]
    exact this
  have HSm := Lib.hid hSame
  clear h hG hSame
  go_enter Tryz.func4, Tryz.ntmps4
  go_wp2_with fail
  refine HAl.out.mono ?_
  rintro r w1 ⟨rfl, b1⟩
  have B1 := Lib.hid b1
  clear b1 HAl
  by_cases hl : (1200 : Int) < (s.size : Int)
  · go_wp2
    go_ret
    exact ⟨rfl, B1.out⟩
  · by_cases hl2 : (1500 : Int) < (gs.length : Int)
    · go_wp2
      go_ret
      exact ⟨rfl, B1.out⟩
    · go_wp2_with fail
      refine (HRA.out w1).mono ?_
      rintro r w2 ⟨A, c, rfl, hr, b2⟩
      have B2 := Lib.hid (B1.out.trans (b2.mono B1.out.size))
      generalize hans : ansOf s = an at *
      obtain ⟨L, en, at_⟩ := an
      simp only at hr HLn
      have HAns := Lib.hid hans
      clear hans
      by_cases hen : en ≠ 0
      · clear HAns HLn
        go_wp2
        go_ret
        exact ⟨rfl, B2.out⟩
      · have h0 : en = 0 := by
          by_cases h9 : en = 0
          · exact h9
          · exact absurd h9 hen
        subst h0
        obtain ⟨hsum, hlen⟩ := HLn.out rfl
        have HR2 := Lib.hid hr
        have HB2s : Hid (∀ (G : Nat → Nat), (bts (blT G 0 L)).size ≤ 4000 → (resP s).2.2 = (resP (bts (blT G 0 L))).2.2 ∧ samePg (resP s).1 (resP (bts (blT G 0 L))).1 = true) := fun G hz => blanks_same (s := s) (L := L) (by rw [HAns.out]) (by rw [HAns.out]) hz
        have hb0 : bts (blT (gapG gs) 0 (L.take 0)) = noText := rfl
        clear hen HLn HAns hr b2
        go_wp2_with fail
        rw [show (⟨#[]⟩ : ByteArray) = bts (blT (gapG gs) 0 (L.take 0)) from rfl]
        go_loopw [8, 38] (fun tv i wr => ∃ (k : Nat), k ≤ L.length ∧ i = .int .i64 (k : Int) ∧ tv = .string (bts (blT (gapG gs) 0 (L.take k))) ∧ Hid (Below w2.heap.size w2 wr)) (fun _ i _ => L.length - (intOf i).toNat)
        case atStart => exact ⟨0, Nat.zero_le _, rfl, rfl, Below.refl _ _⟩
        case round =>
          obtain ⟨k, hk, rfl, rfl, HBr⟩ := hrel
          by_cases hlt : k < L.length
          · obtain ⟨b, o, rfl, hbw, c0, c1, c2⟩ := (HR2.out.below HBr.out).at_ hlt
            have hsn := blT_snoc (G := gapG gs) hlt
            have hlk : (blT (gapG gs) 0 (L.take k)).length ≤ 6000 := by
              have h1 := blT_len (gapG gs) (L.take k) 0
              have h2 : ((L.take k).map fun x => x.2.1.length).sum ≤ (L.map fun x => x.2.1.length).sum := by
                have h3 : L = L.take k ++ L.drop k := (List.take_append_drop k L).symm
                conv => rhs; rw [h3]
                rw [List.map_append, List.sum_append]
                omega
              have h4 : (L.take k).length ≤ L.length := by rw [List.length_take]; omega
              omega
            have hxl : L[k].2.1.length ≤ 2000 := by
              have := le_sum (l := L.map fun x => x.2.1.length) (x := L[k].2.1.length) (List.mem_map.2 ⟨L[k], List.getElem_mem hlt, rfl⟩)
              omega
            have HSn := Lib.hid hsn
            clear hsn
            generalize hacc2 : blT (gapG gs) 0 (L.take (k + 1)) = acc2 at *
            have HA2 := Lib.hid hacc2
            clear hacc2
            generalize blT (gapG gs) 0 (L.take k) = acc at *
            generalize L[k] = x at *
            obtain ⟨xq, xt, xa⟩ := x
            simp only at c0 c1 c2 hxl HSn
            by_cases hgk : k < gs.length
            · obtain ⟨gb, go, rfl, hgw, hgc⟩ := HGp.out (by omega)
              have hg0 := hgc k _ (List.getElem?_eq_getElem hgk)
              have hbb : Below w.heap.size w wr := B2.out.trans (HBr.out.mono B2.out.size)
              have hg1 := (hbb.cell (p := ⟨gb, go + k, none⟩) hgw).trans hg0
              have hgq : gb < wr.heap.size := Nat.lt_of_lt_of_le hgw hbb.size
              have HGk : Hid (gapG gs k = ((gs[k] % 18446744073709551616) % 4).toNat) := by show _ = _; unfold gapG; rw [List.getElem?_eq_getElem hgk]
              generalize gs[k] = z at *
              clear hg0 hgc hbb
              go_wp2_with fail
              rw [show wrap64 ((IntKind.u64.wrap z).tmod 4) = (gapG gs k : Int) by rw [HGk.out]; exact gap_wrap z]
              have h4 := gapG_lt gs k
              rcases (show gapG gs k = 0 ∨ gapG gs k = 1 ∨ gapG gs k = 2 ∨ gapG gs k = 3 by omega) with hg | hg | hg | hg
              · have HT : Hid (acc2 = acc ++ (xt ++ [32])) := by have := HSn.out; rw [hg] at this; exact this
                rw [hg]
                clear HSn hg h4
                go_region
                all_goals
                  go_wp2
                  go_roundw
                  case rel =>
                    refine ⟨k + 1, by omega, by go_num, ?_, Lib.hid (((HBr.out.alloc HBr.out.size _).alloc (by have := HBr.out.size; simp; omega) _).drew)⟩
                    rw [HA2.out, HT.out, ← bts_cat, ← bts_cat]
                  case measure => simp [intOf]; omega
              · have HT : Hid (acc2 = acc ++ (xt ++ [10])) := by have := HSn.out; rw [hg] at this; exact this
                rw [hg]
                clear HSn hg h4
                go_region
                all_goals
                  go_wp2
                  go_roundw
                  case rel =>
                    refine ⟨k + 1, by omega, by go_num, ?_, Lib.hid (((HBr.out.alloc HBr.out.size _).alloc (by have := HBr.out.size; simp; omega) _).drew)⟩
                    rw [HA2.out, HT.out, ← bts_cat, ← bts_cat]
                  case measure => simp [intOf]; omega
              · have HT : Hid (acc2 = acc ++ (xt ++ [37, 120, 10])) := by have := HSn.out; rw [hg] at this; exact this
                rw [hg]
                clear HSn hg h4
                go_region
                all_goals
                  go_wp2
                  go_roundw
                  case rel =>
                    refine ⟨k + 1, by omega, by go_num, ?_, Lib.hid (((HBr.out.alloc HBr.out.size _).alloc (by have := HBr.out.size; simp; omega) _).drew)⟩
                    rw [HA2.out, HT.out, ← bts_cat, ← bts_cat]
                  case measure => simp [intOf]; omega
              · have HT : Hid (acc2 = acc ++ (xt ++ [9, 32, 13])) := by have := HSn.out; rw [hg] at this; exact this
                rw [hg]
                clear HSn hg h4
                go_region
                all_goals
                  go_wp2
                  go_roundw
                  case rel =>
                    refine ⟨k + 1, by omega, by go_num, ?_, Lib.hid (((HBr.out.alloc HBr.out.size _).alloc (by have := HBr.out.size; simp; omega) _).drew)⟩
                    rw [HA2.out, HT.out, ← bts_cat, ← bts_cat]
                  case measure => simp [intOf]; omega
            · have HGk : Hid (gapG gs k = 0) := by show _ = _; unfold gapG; rw [List.getElem?_eq_none (by omega)]
              go_wp2_with fail
              have HT : Hid (acc2 = acc ++ (xt ++ [32])) := by have := HSn.out; rw [HGk.out] at this; exact this
              clear HSn
              go_region
              all_goals
                go_wp2
                go_roundw
                case rel =>
                  refine ⟨k + 1, by omega, by go_num, ?_, Lib.hid (((HBr.out.alloc HBr.out.size _).alloc (by have := HBr.out.size; simp; omega) _).drew)⟩
                  rw [HA2.out, HT.out, ← bts_cat, ← bts_cat]
                case measure => simp [intOf]; omega
          · have hkL : k = L.length := by omega
            subst hkL
            rw [List.take_length]
            have hTlen : (blT (gapG gs) 0 L).length ≤ 6000 := by
              have h1 := blT_len (gapG gs) L 0
              omega
            have HTz : Hid ((bts (blT (gapG gs) 0 L)).size ≤ maxLen) := by show _ ≤ _; rw [bts_size]; unfold maxLen; omega
            have HPs := Lib.hid (HPa.out s wr HS.out (B2.out.trans (HBr.out.mono B2.out.size)))
            have HPt := Lib.hid (fun W hb => HPa.out (bts (blT (gapG gs) 0 L)) W HTz.out hb)
            have HBl := Lib.hid (HB2s.out (gapG gs))
            have HBw := Lib.hid (B2.out.trans (HBr.out.mono B2.out.size))
            clear hTlen HR2
            generalize bts (blT (gapG gs) 0 L) = T at *
            by_cases hl4 : (4000 : Int) < (T.size : Int)
            · go_wp2
              go_ret
              exact ⟨rfl, HBw.out⟩
            · obtain ⟨he, hsm⟩ := HBl.out (by omega)
              generalize resP s = q at *
              generalize resP T = q' at *
              obtain ⟨p1, a1, n1⟩ := q
              obtain ⟨p2, a2, n2⟩ := q'
              simp only at he hsm HPs HPt
              subst he
              have HSmm := Lib.hid hsm
              clear hsm HBl
              go_wp2_with fail
              refine HPs.out.mono ?_
              rintro r w5 ⟨A1, c1, Bq, d1, rfl, hv1, b5⟩
              simp only at hv1
              have B5 := Lib.hid (HBw.out.trans (b5.mono HBw.out.size))
              have V5 := Lib.hid (hv1.here.below ((Below.refl w5.heap.size w5).alloc (o := .cells #[.slice A1 p1.decls.length c1, .slice Bq p1.rules.length d1] 26) (Nat.le_refl _)))
              have O5 : Hid (Own (w5.alloc (.cells #[.slice A1 p1.decls.length c1, .slice Bq p1.rules.length d1] 26)) w5.heap.size 26 [.slice A1 p1.decls.length c1, .slice Bq p1.rules.length d1]) := heap_alloc_new _ _
              have B6 := Lib.hid (B5.out.alloc B5.out.size (.cells #[.slice A1 p1.decls.length c1, .slice Bq p1.rules.length d1] 26))
              have HPt6 := Lib.hid (HPt.out _ B6.out)
              clear hv1 b5 HPs HPt HBw
              go_wp2_with fail
              refine HPt6.out.mono ?_
              rintro r w7 ⟨A2, c2, B2q, d2, rfl, hv2, b7⟩
              simp only at hv2
              have V7 := Lib.hid ((V5.out.below b7).below ((Below.refl w7.heap.size w7).alloc (o := .cells #[.slice A2 p2.decls.length c2, .slice B2q p2.rules.length d2] 26) (Nat.le_refl _)))
              have V7' := Lib.hid (hv2.here.below ((Below.refl w7.heap.size w7).alloc (o := .cells #[.slice A2 p2.decls.length c2, .slice B2q p2.rules.length d2] 26) (Nat.le_refl _)))
              have o5 := (O5.out.below b7).alloc (.cells #[.slice A2 p2.decls.length c2, .slice B2q p2.rules.length d2] 26)
              have o7 : Own (w7.alloc (.cells #[.slice A2 p2.decls.length c2, .slice B2q p2.rules.length d2] 26)) w7.heap.size 26 [.slice A2 p2.decls.length c2, .slice B2q p2.rules.length d2] := heap_alloc_new _ _
              have B8 := Lib.hid ((B6.out.trans (b7.mono B6.out.size)).alloc (Nat.le_trans B6.out.size b7.size) (.cells #[.slice A2 p2.decls.length c2, .slice B2q p2.rules.length d2] 26))
              have HSa := Lib.hid (HSm.out p1 p2 A1 c1 Bq d1 A2 c2 B2q d2 _ V7.out V7'.out)
              have e0 := o5.cell 0
              have e1 := o5.cell 1
              have f0 := o7.cell 0
              have f1 := o7.cell 1
              have eq := o5.lt
              have fq := o7.lt
              simp only [List.getElem?_cons_zero, List.getElem?_cons_succ] at e0 e1 f0 f1
              rw [HSmm.out] at HSa
              have HNm := Lib.hid (fun w => Num_any n1 w)
              generalize errV n1 = ev at *
              clear hv2 b7 o5 o7 V5 O5 HPt6
              go_wp2_with fail
              refine (HNm.out _).mono ?_
              rintro r w8 ⟨rfl, rfl⟩
              go_wp2_with fail
              refine (HNm.out _).mono ?_
              rintro r w9 ⟨rfl, rfl⟩
              go_wp2_with fail
              refine HSa.out.mono ?_
              rintro r w9 ⟨rfl, b9⟩
              have B9 := Lib.hid (B8.out.trans (b9.mono B8.out.size))
              clear b9 e0 e1 f0 f1
              go_wp2
              go_ret
              exact ⟨rfl, B9.out⟩
end Go.Proofs.YtolnikpihedmbaaGreatDoor

namespace Go.Proofs.YtolnikpihedmbaaGreatDoor
open Go.ChangeShapes Go.WideShapes Go.ChangeAt Go.RowKit Go.Joins Go.Deep

theorem gap_plain {w : World} {a : Addr} {v : Value} (h : w.cell? a = some v) : a.spot = none ∧ a.block < w.heap.size := by
  have hb := World.block_lt_of_cell? w a h
  refine ⟨?_, hb⟩
  unfold World.cell? at h
  split at h
  · split at h
    · cases h
    · rename_i hs
      simpa using hs
  · cases h
theorem gap_at {b o n : Nat} : Addr.add ⟨b, o, none⟩ n = ⟨b, o + n, none⟩ := by
  unfold Addr.add
  split
  · subst n; rfl
  · rfl
theorem gap_cells : Tryz.prog.cellsOf 3 = 1 := by kernel_rfl

section
variable {H : Type} {enc : TypeId × Value → H} {W : World} {base : Nat} {spare : Nat → Bool} {held : Bool} {b0 : Nat} {r : Reach} {v : Value} {d : DataW H} {p : List MemPlace}
set_option maxRecDepth 100000 in
/-- numbers among the arguments. -/
theorem open_gaps (hv : Value.okWide Tryz.prog W r b0 39 v) (h : DataW.Trod enc Tryz.prog W base spare held 39 v d p) :
    ∃ (A : Option Addr) (c : Nat) (cs : List Int), v = .slice A cs.length c ∧ cs.length ≤ maxLen ∧ Gaps W A cs := by
  obtain ⟨a0, len0, cap0, rfl⟩ := okWide_slice Tryz.underlying39 hv
  obtain ⟨fuel, hf⟩ := h
  have hf : DataW.trod enc Tryz.prog W base spare held fuel 39 [.slice a0 len0 cap0] = some (d, p) := hf
  rcases open_ints Tryz.underlying39 Tryz.underlying3 gap_cells hf with ⟨hcs, _⟩ | ⟨a, len, cap, zs, hcs, _, hlc, hcm, hzl, _, hcells, _⟩
  · injection hcs with hcs _
    injection hcs with e1 e2 e3
    subst e1 e2 e3
    exact ⟨none, 0, [], rfl, Nat.zero_le _, fun h => absurd h (by simp)⟩
  · injection hcs with hcs _
    injection hcs with e1 e2 e3
    subst e1 e2 e3
    have hlz : len0 ≤ zs.length := by rw [hzl]; split <;> omega
    have hlen : (zs.take len0).length = len0 := by rw [List.length_take]; omega
    refine ⟨some a, cap0, zs.take len0, by rw [hlen], by rw [hlen]; omega, fun h0 => ?_⟩
    rw [hlen] at h0
    have h00 := hcells 0 (by omega)
    obtain ⟨hs0, hb0⟩ := gap_plain h00
    obtain ⟨ab, ao, asp⟩ := a
    have hsp : asp = none := by simpa [Addr.add] using hs0
    subst hsp
    refine ⟨ab, ao, rfl, by simpa [Addr.add] using hb0, fun i z hz => ?_⟩
    have hil : i < len0 := by
      have := (List.getElem?_eq_some_iff.1 hz).1
      omega
    have k0 := hcells i (by omega)
    rw [gap_at] at k0
    rw [k0]
    rw [List.getElem?_take_of_lt hil] at hz
    simp [List.getD, hz]
end
end Go.Proofs.YtolnikpihedmbaaGreatDoor
