/-
  A region that draws its order, by what each of its operations leaves behind: whatever order comes, what each needs stands when it comes, and what stands is kept. No condition. What a record has, by its type: plain mathematics: parts, what is dropped, looked at, counted, put, read. No condition. Data in memory, and what the five functions of a kind owe. No condition. Octets as they are, and texts: what their kinds' functions answer, but for reading. Conditions: as each theorem names them. Texts: what their kind's functions answer, but for reading. Conditions: as each theorem names them. Numbers, by their widths: what the widths' methods answer. Conditions: each width is 0, 2 or 4; the numbers are of 32 bits. Addresses, names, numbers: what their kinds' functions answer, but for reading. Conditions: as each theorem names them.
-/
import Derived.Deep.QuietTactic
import Derived.Test.YtodedbokeodmkaaGreatZk5
import Derived.Test.YtodedbokeodmkaaGreatZk4
import Derived.Test.YtodedbokeodmkaaGreatZk6
import Derived.Test.YtodedbokeodmkaaGreatZk24
import Derived.Test.YtodedbokeodmkaaGreatZk29
import Derived.Test.YtodedbokeodmkaaGreatZk33
import Derived.Test.YtodedbokeodmkaaGreatZk32
import Derived.Test.YtodedbokeodmkaaGreatZk18
import Derived.Test.YtodedbokeodmkaaGreatZk19
namespace Go.Proofs.YtodedbokeodmkaaGreat
set_option linter.unusedVariables false

theorem filter_less {α : Type} {p q : α → Bool} {i : α} : ∀ (l : List α), l.Nodup → i ∈ l → p i = true → q i = false → (∀ j, j ≠ i → p j = q j) → (l.filter q).length + 1 = (l.filter p).length
  | [], _, h, _, _, _ => by cases h
  | x :: r, hd, hi, hp, hq, hs => by
    obtain ⟨hx, hr⟩ := List.nodup_cons.1 hd
    by_cases hxi : x = i
    · subst hxi
      have e : r.filter q = r.filter p := by
        apply List.filter_congr
        intro j hj
        exact (hs j (fun e => hx (e ▸ hj))).symm
      rw [List.filter_cons_of_neg (by simp [hq]), List.filter_cons_of_pos hp, e, List.length_cons]
    · have ih := filter_less r hr ((List.mem_cons.1 hi).resolve_left (fun e => hxi e.symm)) hp hq hs
      cases hpx : p x
      · rw [List.filter_cons_of_neg (by rw [← hs x hxi, hpx]; decide), List.filter_cons_of_neg (by rw [hpx]; decide), ih]
      · rw [List.filter_cons_of_pos (by rw [← hs x hxi, hpx]), List.filter_cons_of_pos hpx, List.length_cons, List.length_cons, ih]

/-- Each operation waits for none but for some that stand ahead of it. -/
def backB : Nat → List Oper → Bool
  | _, [] => true
  | k, o :: r => o.after.all (fun e => Nat.blt e.on k) && backB (k + 1) r
theorem backB_spec : ∀ (l : List Oper) (k : Nat), backB k l = true → ∀ i o, l[i]? = some o → ∀ e ∈ o.after, e.on < k + i
  | [], _, _, i, o, h => by simp at h
  | x :: r, k, hb, i, o, h => by
    simp only [backB, Bool.and_eq_true] at hb
    rcases i with _ | i
    · simp only [List.getElem?_cons_zero, Option.some.injEq] at h
      subst h
      intro e he
      have := Array.all_eq_true_iff_forall_mem.1 hb.1 e he
      simpa [Nat.blt_eq] using this
    · rw [List.getElem?_cons_succ] at h
      intro e he
      have := backB_spec r (k + 1) hb.2 i o h e he
      omega

section
variable {P : Program} {Q : Exit → Act → World → Prop}
def openN (l : List Oper) (listed : Array Bool) : List Nat := (List.range l.length).filter fun i => !listed.getD i true
theorem wpAny_inv {l : List Oper} (hb : backB 0 l = true) (B : Nat → Act → World → Prop) (T : Nat → Act → World → Prop)
    (step : ∀ (f i : Nat) (o : Oper) (a : Act) (w : World) (D : Nat → Prop), l[i]? = some o → f < l.length → ¬ D i → (∀ e ∈ o.after, Region.binds .any e = true → D e.on) → (∀ j o', l[j]? = some o' → D j → ∀ e ∈ o'.after, Region.binds .any e = true → D e.on) → B (f + 1) a w → (∀ j, D j → T j a w) →
      wpOp P l.toArray Q i (fun a' w' => B f a' w' ∧ T i a' w' ∧ ∀ j, D j → T j a' w') a w)
    (fin : ∀ a w, B 0 a w → (∀ j, j < l.length → T j a w) → Q .normal a w) :
    ∀ (f : Nat) (listed : Array Bool) (a : Act) (w : World), listed.size = l.length → (openN l listed).length = f → f ≤ l.length → B f a w → (∀ j, listed.getD j false = true → T j a w) → (∀ j o', l[j]? = some o' → listed.getD j false = true → ∀ e ∈ o'.after, Region.binds .any e = true → listed.getD e.on false = true) → wpAny P .any l.toArray Q f listed a w := by
  have hready : ∀ (listed : Array Bool), listed.size = l.length → Region.ready .any l.toArray listed = [] → openN l listed = [] := by
    intro listed hs hr
    refine Classical.byContradiction fun hne => ?_
    have hex : ∃ i, i ∈ openN l listed := by
      cases h : openN l listed with
      | nil => exact absurd h hne
      | cons x r => exact ⟨x, by simp⟩
    obtain ⟨i, hi, hmin⟩ : ∃ i, i ∈ openN l listed ∧ ∀ j, j < i → j ∉ openN l listed := by
      obtain ⟨i, hi⟩ := hex
      induction i using Nat.strongRecOn with
      | ind i ih =>
        by_cases h : ∃ j, j < i ∧ j ∈ openN l listed
        · obtain ⟨j, hj, hm⟩ := h
          exact ih j hj hm
        · exact ⟨i, hi, fun j hj hm => h ⟨j, hj, hm⟩⟩
    simp only [openN, List.mem_filter, List.mem_range] at hi hmin
    have ho : l[i]? = some l[i] := List.getElem?_eq_getElem hi.1
    have : i ∈ Region.ready .any l.toArray listed := by
      simp only [Region.ready, List.mem_filter, List.mem_range, List.size_toArray]
      refine ⟨hi.1, ?_⟩
      rw [Bool.and_eq_true]
      refine ⟨hi.2, ?_⟩
      rw [List.getElem?_toArray, ho]
      simp only [Option.map_some, Option.getD_some]
      rw [Array.all_eq_true_iff_forall_mem]
      intro e he
      have hlt := backB_spec l 0 hb i _ ho e he
      rw [Bool.or_eq_true]
      right
      have h2 := hmin e.on (by omega)
      have h3 : e.on < listed.size := by omega
      have h4 : ¬ (e.on < l.length ∧ (!listed.getD e.on true) = true) := h2
      simp only [Array.getD_eq_getD_getElem?, Array.getElem?_eq_getElem h3, Option.getD_some] at h4 ⊢
      cases h5 : listed[e.on]
      · exact absurd ⟨by omega, by rw [h5]; rfl⟩ h4
      · rfl
    rw [hr] at this
    cases this
  intro f
  induction f with
  | zero =>
    intro listed a w hs hc hle hB hT hcl
    have hnil : openN l listed = [] := List.eq_nil_of_length_eq_zero hc
    have hall : ∀ j, j < l.length → listed.getD j false = true := by
      intro j hj
      have : j ∉ openN l listed := by rw [hnil]; simp
      simp only [openN, List.mem_filter, List.mem_range, not_and] at this
      have h2 := this hj
      have h3 : j < listed.size := by omega
      simp only [Array.getD_eq_getD_getElem?, Array.getElem?_eq_getElem h3, Option.getD_some] at h2 ⊢
      cases h5 : listed[j]
      · rw [h5] at h2; exact absurd rfl h2
      · rfl
    refine ⟨?_, fin a w hB fun j hj => hT j (hall j hj)⟩
    cases hr : Region.ready .any l.toArray listed with
    | nil => rfl
    | cons i r =>
      have : i ∈ Region.ready .any l.toArray listed := by rw [hr]; simp
      obtain ⟨h1, o, ho, _⟩ := mem_ready.1 this
      rw [List.getElem?_toArray] at ho
      have hi : i < l.length := (List.getElem?_eq_some_iff.1 ho).1
      have h2 := hall i hi
      have h3 : i < listed.size := by omega
      simp only [Array.getD_eq_getD_getElem?, Array.getElem?_eq_getElem h3, Option.getD_some] at h1 h2
      rw [h1] at h2
      cases h2
  | succ f ih =>
    intro listed a w hs hc hle hB hT hcl
    refine ⟨fun hr => ?_, fun i hi => ?_⟩
    · rw [hready listed hs hr] at hc
      cases hc
    · obtain ⟨h1, o, ho, hall⟩ := mem_ready.1 hi
      rw [List.getElem?_toArray] at ho
      have hil : i < l.length := (List.getElem?_eq_some_iff.1 ho).1
      have his : i < listed.size := by omega
      have hf1 : listed.getD i false = false := by
        simp only [Array.getD_eq_getD_getElem?, Array.getElem?_eq_getElem his, Option.getD_some] at h1 ⊢
        exact h1
      have hst := step f i o a w (fun j => listed.getD j false = true) ho (by omega) (by rw [hf1]; decide) (fun e he hbd => hall e he hbd) hcl hB hT
      refine wpOp_mono (fun a' w' h => ?_) hst
      obtain ⟨hB', hTi, hTj⟩ := h
      refine ih _ a' w' (by simpa using hs) ?_ (by omega) hB' (fun j hj => ?_) (fun j o' hj' hj e he hbd => ?_)
      · have := filter_less (p := fun i => !listed.getD i true) (q := fun j => !(listed.setIfInBounds i true).getD j true) (i := i) (List.range l.length) List.nodup_range (List.mem_range.2 hil) (by simp only [h1]; rfl)
          (by simp [Array.getD_eq_getD_getElem?, his]) (fun j hj => by simp only [Array.getD_eq_getD_getElem?, Array.getElem?_setIfInBounds_ne (Ne.symm hj)])
        unfold openN at hc ⊢
        omega
      · by_cases hji : j = i
        · subst hji; exact hTi
        · refine hTj j ?_
          simp only [Array.getD_eq_getD_getElem?, Array.getElem?_setIfInBounds_ne (Ne.symm hji)] at hj ⊢
          exact hj
      · have hkeep : ∀ x, listed.getD x false = true → (listed.setIfInBounds i true).getD x false = true := fun x hx => by
          by_cases hxi : x = i
          · subst hxi
            simp [Array.getD_eq_getD_getElem?, his]
          · simp only [Array.getD_eq_getD_getElem?, Array.getElem?_setIfInBounds_ne (Ne.symm hxi)] at hx ⊢
            exact hx
        by_cases hji : j = i
        · subst hji
          rw [hj'] at ho
          cases ho
          exact hkeep _ (hall e he hbd)
        · refine hkeep _ (hcl j o' hj' ?_ e he hbd)
          simp only [Array.getD_eq_getD_getElem?, Array.getElem?_setIfInBounds_ne (Ne.symm hji)] at hj ⊢
          exact hj
/-- A region that draws its order: B holds at the beginning, and behind each operation; T i behind operation i, and is kept. -/
theorem wp_region_inv {id : Nat} {a : Act} {w : World} {l : List Oper} (hm : P.follows .mixedOrders = true) (hb : backB 0 l = true) (B : Nat → Act → World → Prop) (T : Nat → Act → World → Prop) (h0 : B l.length a w.drew)
    (step : ∀ (f i : Nat) (o : Oper) (a : Act) (w : World) (D : Nat → Prop), l[i]? = some o → f < l.length → ¬ D i → (∀ e ∈ o.after, Region.binds .any e = true → D e.on) → (∀ j o', l[j]? = some o' → D j → ∀ e ∈ o'.after, Region.binds .any e = true → D e.on) → B (f + 1) a w → (∀ j, D j → T j a w) →
      wpOp P l.toArray Q i (fun a' w' => B f a' w' ∧ T i a' w' ∧ ∀ j, D j → T j a' w') a w)
    (fin : ∀ a w, B 0 a w → (∀ j, j < l.length → T j a w) → Q .normal a w) : (Code.region id l.toArray true).wp P Q a w := by
  refine wp_region_any hm ?_
  have hz : ∀ j, (Array.replicate l.length false).getD j false = false := fun j => by
    rw [Array.getD_eq_getD_getElem?, Array.getElem?_replicate]
    split <;> rfl
  refine wpAny_inv hb B T step fin _ _ a _ (by simp) ?_ (Nat.le_refl _) (by simpa using h0) (fun j hj => ?_) (fun j o' _ hj => by rw [List.size_toArray, hz] at hj; cases hj)
  · unfold openN
    rw [List.filter_eq_self.2, List.length_range, List.size_toArray]
    intro i hi
    have := List.mem_range.1 hi
    simp [this]
  · rw [List.size_toArray, hz] at hj
    cases hj
end
end Go.Proofs.YtodedbokeodmkaaGreat
namespace Go.Proofs.YtodedbokeodmkaaGreat
open Go.RowKit
set_option linter.unusedVariables false

/-- Data. -/
structure MD where
  six : Bool
  hi : Nat
  lo : Nat
  n : ByteArray
  m : ByteArray
  v0 : Nat
  v1 : Nat
  v2 : Nat
  v3 : Nat
  v4 : Nat
  L : List ByteArray
  r : ByteArray
def nob : ByteArray := ⟨#[]⟩
def md0 : MD := ⟨false, 0, 0, nob, nob, 0, 0, 0, 0, 0, [], nob⟩
def MD.ad (d : MD) : Ad := (d.six, d.hi, d.lo)
def MD.vs (d : MD) : List Nat := [d.v0, d.v1, d.v2, d.v3, d.v4]
/-- A part of data: an address; a name (the mailbox or not, with pointers or without); numbers, by their widths; texts; octets as they are. -/
inductive Pt where
  | adr (six : Bool)
  | nam (mail ptd : Bool)
  | num (a b c d e : Nat)
  | txt
  | raw
def ws5 (a b c d e : Nat) : List Nat := [a, b, c, d, e]
def nameOf (mail : Bool) (d : MD) : ByteArray := if mail then d.m else d.n
def putName (mail : Bool) (d : MD) (x : ByteArray) : MD := if mail then { d with m := x } else { d with n := x }

def dropP : Pt → MD → MD
  | .adr _, d => { d with six := false, hi := 0, lo := 0 }
  | .nam mail _, d => putName mail d nob
  | .num .., d => { d with v0 := 0, v1 := 0, v2 := 0, v3 := 0, v4 := 0 }
  | .txt, d => { d with L := [] }
  | .raw, d => { d with r := nob }
def dropK (K : List Pt) (d : MD) : MD := K.foldl (fun d p => dropP p d) d

def wideN (v n : Nat) : Bool := decide (v / 2 ^ (8 * n) ≠ 0)
def chkW : List Nat → List Nat → Nat
  | v :: vs, n :: ns => if wideN v n then 2 else chkW vs ns
  | _, _ => 0
def chkT (L : List ByteArray) : Nat := if L.any (fun x => decide (255 < x.size)) then 3 else 0
def chkP : Pt → MD → Nat
  | .adr six, d => if d.six ≠ six then 2 else chkA d.ad
  | .nam mail _, d => chkN (bs (nameOf mail d))
  | .num a b c e f, d => chkW d.vs (ws5 a b c e f)
  | .txt, d => if d.L = [] then 2 else chkT d.L
  | .raw, _ => 0
def firstE {α : Type} (f : α → Nat) : List α → Nat
  | [] => 0
  | x :: r => if f x ≠ 0 then f x else firstE f r
def chkK (K : List Pt) (d : MD) : Nat := firstE (fun p => chkP p d) K

def sizeT (L : List ByteArray) : Nat := (L.map fun x => 1 + x.size).sum
def sizeP : Pt → MD → Nat
  | .adr six, _ => if six then 16 else 4
  | .nam mail _, d => sizeN (bs (nameOf mail d))
  | .num a b c e f, _ => a + b + c + e + f
  | .txt, d => sizeT d.L
  | .raw, d => d.r.size
def sizeK (K : List Pt) (d : MD) : Nat := (K.map fun p => sizeP p d).sum

def sameD (a b : MD) : Bool := decide (a.six = b.six ∧ a.hi = b.hi ∧ a.lo = b.lo ∧ bs a.n = bs b.n ∧ bs a.m = bs b.m ∧ a.vs = b.vs ∧ a.L.map bs = b.L.map bs ∧ bs a.r = bs b.r)
/-- Nothing but what is of the kind, and each part may be. -/
def partsK (K : List Pt) (d : MD) : Nat := if sameD (dropK K d) md0 then chkK K d else 2
def allK (K : List Pt) (d : MD) : Nat := if partsK K d ≠ 0 then partsK K d else if 65535 < sizeK K d then 3 else 0

/-! ### What is put -/
def numsS (M : Nat) : List Nat → List Nat → PS → Nat × PS
  | v :: vs, n :: ns, s => if n = 0 then numsS M vs ns s else if (numS M s v n).1 = 0 then numsS M vs ns (numS M s v n).2 else numS M s v n
  | _, _, s => (0, s)
def textS1 (M : Nat) (s : PS) (x : ByteArray) : Nat × PS := if (numS M s x.size 1).1 = 0 then putS M (numS M s x.size 1).2 (bs x) else numS M s x.size 1
def textsS (M : Nat) : List ByteArray → PS → Nat × PS
  | [], s => (0, s)
  | x :: r, s => if (textS1 M s x).1 = 0 then textsS M r (textS1 M s x).2 else textS1 M s x
def putP (M : Nat) : Pt → MD → PS → Nat × PS
  | .adr _, d, s => putS M s (octA d.ad)
  | .nam mail true, d, s => nameS M s (bs (nameOf mail d))
  | .nam mail false, d, s => plainS M s (bs (nameOf mail d))
  | .num a b c e f, d, s => numsS M d.vs (ws5 a b c e f) s
  | .txt, d, s => textsS M d.L s
  | .raw, d, s => putS M s (bs d.r)
def putK (M : Nat) : List Pt → MD → PS → Nat × PS
  | [], _, s => (0, s)
  | p :: r, d, s => if (putP M p d s).1 = 0 then putK M r d (putP M p d s).2 else putP M p d s

/-! ### What is read: the error, the place behind, the data -/
structure RR where
  e : Nat
  k : Nat
  d : MD
def mkb (l : List UInt8) : ByteArray := ⟨l.toArray⟩
/-- A name, its error, the place behind. -/
def rdName (T R : List UInt8) (ptd : Bool) (k : Nat) : Rd :=
  if (readU T k (if ptd then k else 0)).f ≠ 0 then ⟨[], (readU T k (if ptd then k else 0)).f, k⟩
  else if (seekR R k (readU T k (if ptd then k else 0)).e).1 ≠ 0 then ⟨[], 8, k⟩ else ⟨(readU T k (if ptd then k else 0)).l, 0, (readU T k (if ptd then k else 0)).e⟩
structure Vr where
  v : List Nat
  e : Nat
  k : Nat
def rdNums (R : List UInt8) : List Nat → Nat → Vr
  | [], k => ⟨[], 0, k⟩
  | n :: ns, k => if n = 0 then ⟨0 :: (rdNums R ns k).v, (rdNums R ns k).e, (rdNums R ns k).k⟩
    else if (numR R k n).e ≠ 0 then ⟨[], (numR R k n).e, (numR R k n).k⟩ else ⟨num (numR R k n).s :: (rdNums R ns (numR R k n).k).v, (rdNums R ns (numR R k n).k).e, (rdNums R ns (numR R k n).k).k⟩
def rdText (R : List UInt8) (k : Nat) : Rd := if (numR R k 1).e ≠ 0 then ⟨[], (numR R k 1).e, (numR R k 1).k⟩ else takR R (numR R k 1).k (num (numR R k 1).s : Nat)
/-- Texts up to the end; L: those that are read. -/
def rdTexts (R : List UInt8) : Nat → List ByteArray → Nat → RR
  | 0, L, k => ⟨0, k, { md0 with L := L }⟩
  | f + 1, L, k => if L = [] ∨ k < R.length then (if (rdText R k).e ≠ 0 then ⟨(rdText R k).e, (rdText R k).k, { md0 with L := L }⟩ else rdTexts R f (L ++ [mkb (rdText R k).s]) (rdText R k).k) else ⟨0, k, { md0 with L := L }⟩
def rdP (T R : List UInt8) : Pt → MD → Nat → RR
  | .adr six, d, k => if (takR R k (if six then 16 else 4)).e ≠ 0 then ⟨(takR R k (if six then 16 else 4)).e, k, d⟩
    else ⟨(ofA (takR R k (if six then 16 else 4)).s).2, (takR R k (if six then 16 else 4)).k, { d with six := (ofA (takR R k (if six then 16 else 4)).s).1.1, hi := (ofA (takR R k (if six then 16 else 4)).s).1.2.1, lo := (ofA (takR R k (if six then 16 else 4)).s).1.2.2 }⟩
  | .nam mail ptd, d, k => ⟨(rdName T R ptd k).e, (rdName T R ptd k).k, putName mail d (mkb (rdName T R ptd k).s)⟩
  | .num a b c e f, d, k => ⟨(rdNums R (ws5 a b c e f) k).e, (rdNums R (ws5 a b c e f) k).k, { d with v0 := (rdNums R (ws5 a b c e f) k).v.getD 0 0, v1 := (rdNums R (ws5 a b c e f) k).v.getD 1 0, v2 := (rdNums R (ws5 a b c e f) k).v.getD 2 0, v3 := (rdNums R (ws5 a b c e f) k).v.getD 3 0, v4 := (rdNums R (ws5 a b c e f) k).v.getD 4 0 }⟩
  | .txt, d, k => ⟨(rdTexts R (R.length + 1 - k) d.L k).e, (rdTexts R (R.length + 1 - k) d.L k).k, { d with L := (rdTexts R (R.length + 1 - k) d.L k).d.L }⟩
  | .raw, d, k => ⟨0, R.length, { d with r := mkb (R.drop k) }⟩
def rdK (T R : List UInt8) : List Pt → MD → Nat → RR
  | [], d, k => ⟨0, k, d⟩
  | p :: r, d, k => if (rdP T R p d k).e ≠ 0 then rdP T R p d k else rdK T R r (rdP T R p d k).d (rdP T R p d k).k

/-! ### The types -/
/-- What a type that is told has. -/
def table (t : Int) : Option (List Pt) :=
  if t = 1 then some [.adr false] else if t = 2 then some [.nam false true] else if t = 5 then some [.nam false true]
  else if t = 6 then some [.nam false true, .nam true true, .num 4 4 4 4 4] else if t = 12 then some [.nam false true]
  else if t = 15 then some [.num 2 0 0 0 0, .nam false true] else if t = 16 then some [.txt] else if t = 28 then some [.adr true]
  else if t = 33 then some [.num 2 2 2 0 0, .nam false false] else none
def isT (t : Int) : Bool := decide (0 ≤ t ∧ t ≤ 65535)
def kindK (t : Int) : List Pt := (table t).getD [.raw]
def checkD (t : Int) (d : MD) : Nat := if isT t then allK (kindK t) d else 2
def sizeD (t : Int) (d : MD) : Nat := if isT t then (if partsK (kindK t) d ≠ 0 then 0 else sizeK (kindK t) d) else 0
def putD (M : Nat) (t : Int) (d : MD) (s : PS) : Nat × PS := if isT t then (if allK (kindK t) d ≠ 0 then (allK (kindK t) d, s) else putK M (kindK t) d s) else (2, s)
/-- Data from at up to end. -/
def readD (T : List UInt8) (a e t : Int) : Nat × MD :=
  if isT t then (if e < 0 ∨ (T.length : Int) < e then (2, md0) else if a < 0 ∨ e < a then (2, md0)
    else if (rdK T (T.take e.toNat) (kindK t) md0 a.toNat).e ≠ 0 then ((rdK T (T.take e.toNat) (kindK t) md0 a.toNat).e, md0)
    else if (rdK T (T.take e.toNat) (kindK t) md0 a.toNat).k < e.toNat ∨ allK (kindK t) (rdK T (T.take e.toNat) (kindK t) md0 a.toNat).d ≠ 0 then (4, md0) else (0, (rdK T (T.take e.toNat) (kindK t) md0 a.toNat).d)) else (2, md0)
end Go.Proofs.YtodedbokeodmkaaGreat
namespace Go.Proofs.YtodedbokeodmkaaGreat
open Go.RowKit
set_option linter.unusedVariables false

/-- Data as cells; tv: the slice of its texts. -/
abbrev cellsD (d : MD) (tv : Value) : Array Value :=
  #[.bool d.six, .int .u64 (d.hi : Int), .int .u64 (d.lo : Int), .string d.n, .string d.m, .int .u32 (d.v0 : Int), .int .u32 (d.v1 : Int), .int .u32 (d.v2 : Int), .int .u32 (d.v3 : Int), .int .u32 (d.v4 : Int), tv, .string d.r]
/-- Data as a value. -/
abbrev dataV (d : MD) (tv : Value) : Value := .agg (cellsD d tv)
abbrev nilS : Value := .slice none 0 0
/-- The block that a slice lies in. -/
def blk (v : Value) : Option Nat := match v with
  | .slice (some a) _ cap => if cap = 0 then none else some a.block
  | _ => none
theorem blk_none (A : Option Addr) (n : Nat) : blk (.slice A n 0) = none := by cases A <;> rfl
theorem blk_some {a : Addr} {n cap : Nat} (h : 0 < cap) : blk (.slice (some a) n cap) = some a.block := if_neg (Nat.ne_of_gt h)
theorem blk_eq {a : Addr} {n cap k : Nat} (h : blk (.slice (some a) n cap) = some k) : 0 < cap ∧ a.block = k := by
  rcases Nat.eq_zero_or_pos cap with rfl | hc
  · cases (blk_none (some a) n).symm.trans h
  · rw [blk_some hc] at h
    injection h with h
    exact ⟨hc, h⟩
theorem SRow.far {w w' : World} {v : Value} {L : List ByteArray} (h : SRow w v L) (hz : w.heap.size ≤ w'.heap.size) (hb : ∀ j, blk v = some j → w'.heap[j]? = w.heap[j]?) : SRow w' v L := by
  rcases h with h | ⟨g, off, cap, rfl, h2, h3, h4, h5⟩
  · exact .inl h
  · rcases Nat.eq_zero_or_pos cap with rfl | hc
    · exact .inl ⟨_, by rw [Nat.le_zero.1 h3], List.eq_nil_of_length_eq_zero (Nat.le_zero.1 h3)⟩
    exact .inr ⟨g, off, cap, rfl, Nat.lt_of_lt_of_le h2 hz, h3, h4, fun j hj => (World.cell?_of_block (w := w) (w' := w') (a := ⟨g, off + j, none⟩) (hb g (blk_some hc))).trans (h5 j hj)⟩
/-- Data that Go can have. -/
structure Fit (w : World) (d : MD) (tv : Value) : Prop where
  row : SRow w tv d.L
  n : d.n.size ≤ maxLen
  m : d.m.size ≤ maxLen
  r : d.r.size ≤ maxLen
  t : ∀ x ∈ d.L, x.size ≤ maxLen
  tl : d.L.length ≤ 17592186044416
  hi : d.hi < 18446744073709551616
  lo : d.lo < 18446744073709551616
  v0 : d.v0 < 4294967296
  v1 : d.v1 < 4294967296
  v2 : d.v2 < 4294967296
  v3 : d.v3 < 4294967296
  v4 : d.v4 < 4294967296
theorem Fit.next {w w' : World} {d : MD} {tv : Value} (h : Fit w d tv) (hb : Below w.heap.size w w') : Fit w' d tv := { h with row := h.row.next hb }
/-- A function that has a body, however it is called. -/
def Goes (fid : FuncId) : Prop := ∀ (args : Array Value) (w : World), (callFunc fid args).run Tryz.prog w = .ok (.enter fid args) w
/-- A call of a function value. -/
def FunV (f : Value) (args : Array Value) (w : World) (R : Ending → World → Prop) : Prop := ∃ fid caps, f = .func (.func fid) #[] caps ∧ Goes fid ∧ Calls Tryz.prog fid (args ++ caps) w R
theorem FunV.mono {f : Value} {args : Array Value} {w : World} {R R' : Ending → World → Prop} (h : FunV f args w R) (hr : ∀ e w', R e w' → R' e w') : FunV f args w R' := by
  obtain ⟨fid, caps, h1, hg, h2⟩ := h
  exact ⟨fid, caps, h1, hg, h2.mono hr⟩

/-! ### A cursor, and data that are being read -/
structure RS (w : World) (base : Nat) (F : Nat → Prop) (c g gd : Nat) (S R : ByteArray) (k : Nat) (d : MD) (tv : Value) : Prop where
  cur : Lies w c 215 #[pp g, .string S]
  rd : RD w g R k
  hk : k ≤ R.size
  dat : Lies w gd 30 (cellsD d tv)
  own : w.ownsRow base 9 1 tv d.L.length (d.L.map Value.string)
  bg : base ≤ g
  bd : base ≤ gd
  Fg : F g
  Fd : F gd
  Fo : ∀ j, tv.ownBlock = some j → F j
  Fc : ¬ F c
  Fl : ∀ j, F j → base ≤ j ∧ j < w.heap.size

/-! ### What the functions of a kind owe -/
def Dropped (w : World) (g : Nat) (d' : MD) (L : List ByteArray) (tv : Value) (e : Ending) (w' : World) : Prop :=
  (∃ u, e = .returned u) ∧ w.grownBy w' (some g) ∧ ∃ tv', Lies w' g 30 (cellsD d' tv') ∧ ((tv' = tv ∧ d'.L = L) ∨ (tv' = nilS ∧ d'.L = []))
def Told (w : World) (v : Value) (e : Ending) (w' : World) : Prop := e = .returned v ∧ Below w.heap.size w w'
def ReadB (w : World) (base : Nat) (F : Nat → Prop) (c g gd : Nat) (S R : ByteArray) (x : RR) (e : Ending) (w' : World) : Prop :=
  e = .returned (.int .i64 (x.e : Int)) ∧ ∃ F' k' d' tv', RS w' base F' c g gd S R k' d' tv' ∧ Kf base F F' w w' ∧ (x.e = 0 → k' = x.k ∧ d' = x.d)
def Kdrop (Bs : Nat → Prop) (K : List Pt) (w : World) (f : Value) : Prop := ∀ g d tv, ¬ Bs g → Lies w g 30 (cellsD d tv) → FunV f #[pp g] w (Dropped w g (dropK K d) d.L tv)
def Kcheck (K : List Pt) (w : World) (f : Value) : Prop := ∀ d tv, Fit w d tv → FunV f #[dataV d tv] w (Told w (.int .i64 (chkK K d : Nat)))
def Ksize (K : List Pt) (w : World) (f : Value) : Prop := ∀ d tv, Fit w d tv → chkK K d = 0 → FunV f #[dataV d tv] w (Told w (.int .i64 (sizeK K d : Nat)))
def Kput (Bs : Nat → Prop) (K : List Pt) (w : World) (f : Value) : Prop := ∀ base F g M s d tv, (∀ j, Bs j → ¬ F j) → PK w base F g M s → Fit w d tv → (∀ j, blk tv = some j → j < base) → chkK K d = 0 → sizeK K d ≤ 65535 →
  FunV f #[pp g, dataV d tv] w (Pkr w base F g M (putK M K d s).2 (.int .i64 ((putK M K d s).1 : Nat)))
def Kread (Bs : Nat → Prop) (K : List Pt) (w : World) (f : Value) : Prop := ∀ base F c g gd S R k d tv, (∀ j, Bs j → ¬ F j) → S.size ≤ 1099511627776 → R.size ≤ S.size → d.L = [] → RS w base F c g gd S R k d tv →
  FunV f #[pp c, pp gd] w (ReadB w base F c g gd S R (rdK (bs S) (bs R) K d k))
structure KOps (Bs : Nat → Prop) (K : List Pt) (w : World) (f0 f1 f2 f3 f4 : Value) : Prop where
  drop : Kdrop Bs K w f0
  check : Kcheck K w f1
  size : Ksize K w f2
  put : Kput Bs K w f3
  read : Kread Bs K w f4
/-- A function that has a body, with what it captured. -/
def isFn (f : Value) : Prop := ∃ fid caps, f = .func (.func fid) #[] caps ∧ Goes fid
/-- A kind whose blocks are from lo on. -/
def IK (lo : Nat) (w : World) (v : Value) (K : List Pt) : Prop :=
  ∃ Bs : Nat → Prop, (∀ j, Bs j → lo ≤ j ∧ ∃ cs t, w.heap[j]? = some (.cells cs t (0, 0))) ∧ ∃ f0 f1 f2 f3 f4, v = .agg #[f0, f1, f2, f3, f4] ∧ (isFn f0 ∧ isFn f1 ∧ isFn f2 ∧ isFn f3 ∧ isFn f4) ∧
    ∀ w1 : World, w.heap.size ≤ w1.heap.size → (∀ j, Bs j → w1.heap[j]? = w.heap[j]?) → KOps Bs K w1 f0 f1 f2 f3 f4
/-- Blocks of cells stay; there may be more. -/
structure CG (w w' : World) : Prop where
  size : w.heap.size ≤ w'.heap.size
  cells : ∀ (j : Nat) (cs : Array Value) (t : TypeId) (m : Nat × Nat), w.heap[j]? = some (.cells cs t m) → w'.heap[j]? = w.heap[j]?
theorem CG.refl (w : World) : CG w w := ⟨Nat.le_refl _, fun _ _ _ _ _ => rfl⟩
theorem CG.trans {w w' w'' : World} (h : CG w w') (k : CG w' w'') : CG w w'' :=
  ⟨Nat.le_trans h.size k.size, fun j cs t m hj => (k.cells j cs t m ((h.cells j cs t m hj).trans hj)).trans (h.cells j cs t m hj)⟩
theorem CG.of_below {w w' : World} (h : Below w.heap.size w w') : CG w w' := ⟨h.size, fun j cs t m hj => h.block j (Array.getElem?_eq_some_iff.1 hj).1⟩
theorem CG.alloc (w : World) (o : Obj) : CG w (w.alloc o) := CG.of_below ((Below.refl _ _).alloc (Nat.le_refl _) _)
theorem IK.next {lo : Nat} {w w' : World} {v : Value} {K : List Pt} (h : IK lo w v K) (hg : CG w w') : IK lo w' v K := by
  obtain ⟨Bs, h1, f0, f1, f2, f3, f4, rfl, h3, h2⟩ := h
  have hs : ∀ j, Bs j → w'.heap[j]? = w.heap[j]? := fun j hj => let ⟨_, cs, t, hb⟩ := h1 j hj; hg.cells j cs t _ hb
  exact ⟨Bs, fun j hj => let ⟨a, cs, t, hb⟩ := h1 j hj; ⟨a, cs, t, (hs j hj).trans hb⟩, f0, f1, f2, f3, f4, rfl, h3, fun w1 hz hb => h2 w1 (Nat.le_trans hg.size hz) fun j hj => (hb j hj).trans (hs j hj)⟩
theorem IK.lower {lo lo' : Nat} {w : World} {v : Value} {K : List Pt} (h : IK lo w v K) (hl : lo' ≤ lo) : IK lo' w v K := by
  obtain ⟨Bs, h1, h2⟩ := h
  exact ⟨Bs, fun j hj => let ⟨a, b⟩ := h1 j hj; ⟨Nat.le_trans hl a, b⟩, h2⟩
end Go.Proofs.YtodedbokeodmkaaGreat
namespace Go.Proofs.YtodedbokeodmkaaGreat
open Go.RowKit
set_option linter.unusedVariables false
set_option maxRecDepth 100000

theorem chk_one (p : Pt) (d : MD) : chkK [p] d = chkP p d := by
  unfold chkK firstE firstE
  split
  · rfl
  · rename_i h
    exact (Decidable.not_not.1 h).symm
theorem size_one (p : Pt) (d : MD) : sizeK [p] d = sizeP p d := by simp [sizeK]
theorem put_one (M : Nat) (p : Pt) (d : MD) (s : PS) : putK M [p] d s = putP M p d s := by
  unfold putK putK
  split
  · rename_i h
    exact Prod.ext h.symm rfl
  · rfl
theorem rd_one (T R : List UInt8) (p : Pt) (d : MD) (k : Nat) : rdK T R [p] d k = rdP T R p d k := by
  unfold rdK rdK
  split
  · rfl
  · rename_i h
    rw [show (0 : Nat) = (rdP T R p d k).e from (Decidable.not_not.1 h).symm]
theorem grown_one (w : World) (g j : Nat) (u : Value) : w.grownBy (w.setCell ⟨g, j, none⟩ u) (some g) := grown_set (base := 0) w g j u
theorem boxD (w : World) (d : MD) (tv : Value) : Below w.heap.size w (w.alloc (.cells (cellsD d tv) 30)) := (Below.refl _ _).alloc (Nat.le_refl _) _

/-! ### Octets as they are -/
theorem raw1 {g : Nat} {d : MD} {tv : Value} {w : World} (h : Lies w g 30 (cellsD d tv)) : Calls Tryz.prog 138 #[pp g] w (Dropped w g (dropK [.raw] d) d.L tv) := by
  have hc := h.cell 11
  have hf := h.free 11
  have HR : Hid (Lies (w.setCell ⟨g, 11, none⟩ (.string ⟨#[]⟩)) g 30 (cellsD (dropK [.raw] d) tv)) := Lib.hid (h.set 11 _)
  have HG := Lib.hid (grown_one w g 11 (.string ⟨#[]⟩))
  clear h
  go_enter Tryz.func138, Tryz.ntmps138
  go_wp2
  refine bodyPost_ret (v := .tuple #[]) (by simp [results, Tryz.results138, go_sem]) rfl ?_
  exact ⟨⟨_, rfl⟩, HG.out, tv, HR.out, .inl ⟨rfl, rfl⟩⟩
theorem raw2 (d : MD) (tv : Value) (w : World) : Calls Tryz.prog 139 #[dataV d tv] w (Told w (.int .i64 (chkK [.raw] d : Nat))) := by
  unfold dataV cellsD
  have HB := Lib.hid (boxD w d tv)
  go_enter Tryz.func139, Tryz.ntmps139
  go_wp2
  go_ret
  exact ⟨rfl, HB.out⟩
theorem raw3 (d : MD) (tv : Value) (w : World) (hr : d.r.size ≤ maxLen) : Calls Tryz.prog 140 #[dataV d tv] w (Told w (.int .i64 (sizeK [.raw] d : Nat))) := by
  rw [size_one]
  unfold dataV cellsD
  have HB := Lib.hid (boxD w d tv)
  go_enter Tryz.func140, Tryz.ntmps140
  go_wp2
  go_ret
  exact ⟨rfl, HB.out⟩
theorem raw4 {base g M : Nat} {F : Nat → Prop} {s : PS} (d : MD) (tv : Value) (w : World) (h : PK w base F g M s) (hs : sizeK [.raw] d ≤ 65535) :
    Calls Tryz.prog 141 #[pp g, dataV d tv] w (Pkr w base F g M (putK M [.raw] d s).2 (.int .i64 ((putK M [.raw] d s).1 : Nat))) := by
  rw [size_one] at hs
  rw [put_one]
  have hr : d.r.size ≤ 65535 := hs
  have hb0 := boxD w d tv
  have HK := Lib.hid (Kf.of_below (base := base) (F := F) hb0 h.base_le)
  have HP := Lib.hid (h.next hb0)
  have HC := Lib.hid fun wx (hx : PK wx base F g M s) => pPut_any hx d.r (by omega)
  obtain ⟨q, hq⟩ : ∃ q, putS M s (bs d.r) = q := ⟨_, rfl⟩
  have e : putP M .raw d s = q := hq
  rw [e]
  rw [hq] at HC
  clear hq e h hb0 hs hr
  unfold dataV cellsD
  go_enter Tryz.func141, Tryz.ntmps141
  go_wp2_with (go_at_call 92; (with_reducible refine (HC.out _ HP.out).mono ?_); rintro e w' ⟨rfl, hp⟩; have HQ := Lib.hid hp; clear hp)
  go_ret
  obtain ⟨F', h1, h2⟩ := HQ.out
  exact ⟨rfl, F', h1, HK.out.trans h2⟩
end Go.Proofs.YtodedbokeodmkaaGreat
namespace Go.Proofs.YtodedbokeodmkaaGreat
open Go.RowKit
set_option linter.unusedVariables false
set_option maxRecDepth 100000

/-- What 'first' hands back: no error, and what holds behind all; or the first one. -/
def FirstR (J : World → Prop) (Z : Nat → World → Prop) (e : Ending) (w' : World) : Prop := ∃ x : Nat, e = .returned (.int .i64 (x : Int)) ∧ ((x = 0 ∧ J w') ∨ (x ≠ 0 ∧ Z x w'))
theorem FirstR.ok {J : World → Prop} {Z : Nat → World → Prop} {w' : World} (h : J w') : FirstR J Z (.returned (.int .i64 0)) w' := ⟨0, rfl, .inl ⟨rfl, h⟩⟩
theorem FirstR.bad {J : World → Prop} {Z : Nat → World → Prop} {w' : World} {x : Nat} (hx : x ≠ 0) (h : Z x w') : FirstR J Z (.returned (.int .i64 (x : Int))) w' := ⟨x, rfl, .inr ⟨hx, h⟩⟩
set_option maxHeartbeats 1000000 in
theorem firstS_any (tv : Value) (L : List ByteArray) (fid : FuncId) (caps : Array Value) (J : Nat → World → Prop) (Z : Nat → World → Prop) (w : World) (hgo : Goes fid) (hm : L.length ≤ maxLen)
    (hrow : ∀ k wx, J k wx → SRow wx tv L) (h0 : J 0 w) (hs : ∀ k wx (hk : k < L.length), J k wx → Calls Tryz.prog fid (#[.string L[k]] ++ caps) wx (FirstR (J (k + 1)) Z)) :
    Calls Tryz.prog 210 #[tv, .func (.func fid) #[] caps] w (FirstR (J L.length) Z) := by
  obtain ⟨A, cap, rfl, hcap, hcap2⟩ := (hrow 0 w h0).shape
  have HR := Lib.hid hrow
  have HS := Lib.hid hs
  have HGO := Lib.hid hgo
  clear hgo
  have H0 := Lib.hid h0
  unfold maxLen at hcap2 hm
  clear hrow hs h0
  go_enter Tryz.func210, Tryz.ntmps210
  go_wp2
  go_loopw [10] (fun i wr => ∃ k : Nat, i = .int .i64 k ∧ k ≤ L.length ∧ J k wr) (fun i _ => L.length - (intOf i).toNat)
  case atStart => exact ⟨0, rfl, Nat.zero_le _, H0.out⟩
  case round =>
    clear H0
    obtain ⟨k, rfl, hk, hJ⟩ := hrel
    have HJ := Lib.hid hJ
    clear hJ
    by_cases hlt : k < L.length
    · rcases HR.out k wr HJ.out with ⟨_, h1, h2⟩ | ⟨g, off, cap', h1, h2, _, _, h3⟩
      · rw [h2] at hlt
        simp at hlt
      · injection h1 with h1 _ h1'
        subst h1
        have hcell := h3 k hlt
        have HC := Lib.hid (HS.out k wr hlt HJ.out)
        clear h3 h1'
        have hgo := HGO.out
        unfold Goes at hgo
        go_wp2_with ((with_reducible refine HC.out.mono ?_); rintro e w1 ⟨x, rfl, hx⟩; have HX := Lib.hid hx; clear hx)
        · go_ret
          have hx : ((x : Int) != 0) = true := by assumption
          have hx : x ≠ 0 := fun h => by rw [h] at hx; exact absurd hx (by decide)
          exact FirstR.bad hx (HX.out.resolve_left fun h => hx h.1).2
        · have hx : ((x : Int) != 0) = false := by assumption
          have hx : x = 0 := Classical.byContradiction fun h => by simp [h] at hx
          go_roundw
          case rel => exact ⟨k + 1, by go_num, by omega, (HX.out.resolve_right fun h => h.1 hx).2⟩
          case measure => simp [intOf]; omega
    · obtain rfl : k = L.length := by omega
      go_wp2
      go_ret
      exact FirstR.ok HJ.out
theorem goesT1 : Goes 211 := fun args w => by kernel_rfl
theorem goesT2 : Goes 212 := fun args w => by kernel_rfl
theorem chkT1 (x : ByteArray) (w : World) (hx : x.size ≤ maxLen) : Calls Tryz.prog 211 #[.string x] w fun e w' => e = .returned (.int .i64 ((if 255 < x.size then 3 else 0 : Nat) : Int)) ∧ w = w' := by
  unfold maxLen at hx
  by_cases h : 255 < x.size
  · rw [if_pos h]
    have hd : decide ((255 : Int) < (x.size : Int)) = true := by simpa using (by omega : (255 : Int) < x.size)
    go_enter Tryz.func211, Tryz.ntmps211
    go_wp2
    go_ret
    exact ⟨rfl, rfl⟩
  · rw [if_neg h]
    have hd : decide ((255 : Int) < (x.size : Int)) = false := by simpa using (by omega : (x.size : Int) ≤ 255)
    go_enter Tryz.func211, Tryz.ntmps211
    go_wp2
    go_ret
    exact ⟨rfl, rfl⟩
theorem chkT_take {L : List ByteArray} {k : Nat} (hk : k < L.length) (h : ∀ x ∈ L.take k, x.size ≤ 255) (hx : ¬ 255 < L[k].size) : ∀ x ∈ L.take (k + 1), x.size ≤ 255 := by
  intro x hm
  rw [List.take_succ_eq_append_getElem hk, List.mem_append] at hm
  rcases hm with hm | hm
  · exact h x hm
  · rw [List.mem_singleton.1 hm]; omega
theorem chkT_ok {L : List ByteArray} (h : ∀ x ∈ L, x.size ≤ 255) : chkT L = 0 := by
  unfold chkT
  rw [if_neg]
  rw [List.any_eq_true]
  rintro ⟨x, hx, hd⟩
  have := h x hx
  simp at hd
  omega
theorem chkT_bad {L : List ByteArray} {k : Nat} (hk : k < L.length) (h : 255 < L[k].size) : chkT L = 3 := by
  unfold chkT
  rw [if_pos]
  rw [List.any_eq_true]
  exact ⟨L[k], List.getElem_mem hk, by simpa using h⟩
theorem checkTexts_first (d : MD) (tv : Value) (w w0 : World) (hm : d.L.length ≤ maxLen) (hr : SRow w tv d.L) (ht : ∀ x ∈ d.L, x.size ≤ maxLen) :
    Calls Tryz.prog 210 #[tv, .func (.func 211) #[] #[]] w fun e w' => e = .returned (.int .i64 ((chkT d.L : Nat) : Int)) ∧ w = w' := by
  refine (firstS_any tv d.L _ #[] (fun k wx => w = wx ∧ ∀ x ∈ d.L.take k, x.size ≤ 255) (fun x wx => w = wx ∧ x = 3 ∧ chkT d.L = 3) w goesT1 hm (fun k wx h => by rw [← h.1]; exact hr) ⟨rfl, by simp⟩ ?_).mono ?_
  · rintro k wx hk ⟨rfl, hJ⟩
    refine (chkT1 d.L[k] w (ht _ (List.getElem_mem hk))).mono ?_
    rintro e w' ⟨rfl, rfl⟩
    by_cases h : 255 < d.L[k].size
    · rw [if_pos h]
      exact FirstR.bad (by decide) ⟨rfl, rfl, chkT_bad hk h⟩
    · rw [if_neg h]
      exact FirstR.ok ⟨rfl, chkT_take hk hJ h⟩
  · rintro e w' ⟨x, rfl, (⟨rfl, rfl, h⟩ | ⟨_, rfl, rfl, h⟩)⟩
    · rw [List.take_length] at h
      rw [chkT_ok h]
      exact ⟨rfl, rfl⟩
    · rw [h]
      exact ⟨rfl, rfl⟩

theorem txt1 {g : Nat} {d : MD} {tv : Value} {w : World} (h : Lies w g 30 (cellsD d tv)) : Calls Tryz.prog 195 #[pp g] w (Dropped w g (dropK [.txt] d) d.L tv) := by
  have hc := h.cell 10
  have hf := h.free 10
  have HR : Hid (Lies (w.setCell ⟨g, 10, none⟩ nilS) g 30 (cellsD (dropK [.txt] d) nilS)) := Lib.hid (h.set 10 _)
  have HG := Lib.hid (grown_one w g 10 nilS)
  clear h
  go_enter Tryz.func195, Tryz.ntmps195
  go_wp2
  refine bodyPost_ret (v := .tuple #[]) (by simp [results, Tryz.results195, go_sem]) rfl ?_
  exact ⟨⟨_, rfl⟩, HG.out, nilS, HR.out, .inr ⟨rfl, rfl⟩⟩
theorem txt2 (d : MD) (tv : Value) (w : World) (h : Fit w d tv) : Calls Tryz.prog 196 #[dataV d tv] w (Told w (.int .i64 (chkK [.txt] d : Nat))) := by
  rw [chk_one]
  obtain ⟨A, cap, rfl, hcap, hcap2⟩ := h.row.shape
  have hb0 := boxD w d (.slice A d.L.length cap)
  have HB := Lib.hid hb0
  have HF := Lib.hid (fun wx => checkTexts_first d (.slice A d.L.length cap) (w.alloc (.cells (cellsD d (.slice A d.L.length cap)) 30)) wx (by omega) (h.row.next hb0) h.t)
  clear h hb0
  unfold maxLen at hcap2
  by_cases h0 : d.L.length = 0
  · have HV : Hid (chkP .txt d = 2) := Lib.hid (if_pos (List.eq_nil_of_length_eq_zero h0))
    rw [h0]
    rw [h0] at HB
    clear HF
    unfold dataV cellsD
    go_enter Tryz.func196, Tryz.ntmps196
    go_wp2
    go_ret
    rw [HV.out]
    exact ⟨rfl, HB.out⟩
  · have HV : Hid (chkP .txt d = chkT d.L) := Lib.hid (if_neg fun h => h0 (by rw [h]; rfl))
    have hd : ((d.L.length : Int) == 0) = false := by simpa using fun h => h0 (by rw [h]; rfl)
    unfold dataV cellsD
    go_enter Tryz.func196, Tryz.ntmps196
    go_wp2_with (go_at_call 210; (with_reducible refine (HF.out w).mono ?_); rintro e w' ⟨rfl, rfl⟩)
    go_ret
    rw [HV.out]
    exact ⟨rfl, HB.out⟩

theorem sizeT_take {L : List ByteArray} {k : Nat} (hk : k < L.length) : sizeT (L.take (k + 1)) = sizeT (L.take k) + (1 + L[k].size) := by
  unfold sizeT
  rw [List.take_succ_eq_append_getElem hk, List.map_append, List.sum_append]
  simp
theorem sizeT_le {L : List ByteArray} (h : ∀ x ∈ L, x.size ≤ 255) : sizeT L ≤ 256 * L.length := by
  induction L with
  | nil => simp [sizeT]
  | cons x L ih =>
    have h1 := h x (by simp)
    have h2 := ih fun y hy => h y (by simp [hy])
    unfold sizeT at *
    simp only [List.map_cons, List.sum_cons, List.length_cons]
    omega
theorem chkT_zero {L : List ByteArray} (h : chkT L = 0) : ∀ x ∈ L, x.size ≤ 255 := by
  intro x hx
  unfold chkT at h
  split at h
  · cases h
  · rename_i hn
    rw [List.any_eq_true] at hn
    refine Nat.le_of_not_lt fun hlt => hn ⟨x, hx, by simpa using hlt⟩
theorem txt_ok {d : MD} (h : chkK [.txt] d = 0) : ∀ x ∈ d.L, x.size ≤ 255 := by
  rw [chk_one] at h
  have h : (if d.L = [] then 2 else chkT d.L) = 0 := h
  split at h
  · cases h
  · exact chkT_zero h
set_option maxHeartbeats 1000000 in
theorem txt3 (d : MD) (tv : Value) (w : World) (h : Fit w d tv) (hc : chkK [.txt] d = 0) : Calls Tryz.prog 197 #[dataV d tv] w (Told w (.int .i64 (sizeK [.txt] d : Nat))) := by
  have ht := txt_ok hc
  have hl := h.tl
  have hsm := sizeT_le ht
  rw [size_one, show sizeP .txt d = sizeT d.L from rfl]
  have hrow := h.row
  obtain ⟨A, cap, rfl, hcap, hcap2⟩ := hrow.shape
  have hb0 := boxD w d (.slice A d.L.length cap)
  have HB := Lib.hid hb0
  have HW := Lib.hid (hrow.next hb0)
  have HT := Lib.hid ht
  clear h hb0 hrow ht hc
  unfold maxLen at hcap2
  unfold dataV cellsD
  go_enter Tryz.func197, Tryz.ntmps197
  go_wp2
  go_loop [3, 9] (fun s i => ∃ k : Nat, i = .int .i64 k ∧ k ≤ d.L.length ∧ s = .int .i64 (sizeT (d.L.take k) : Nat)) (fun _ i => d.L.length - (intOf i).toNat)
  case atStart => exact ⟨0, rfl, Nat.zero_le _, rfl⟩
  case round =>
    obtain ⟨k, rfl, hk, rfl⟩ := hrel
    have hks := sizeT_le (L := d.L.take k) fun x hx => HT.out x (List.mem_of_mem_take hx)
    rw [List.length_take] at hks
    have hkm : min k d.L.length ≤ k := Nat.min_le_left _ _
    by_cases hlt : k < d.L.length
    · rcases HW.out with ⟨_, h1, h2⟩ | ⟨g, off, cap', h1, h2, _, _, h3⟩
      · rw [h2] at hlt
        simp at hlt
      · injection h1 with h1 _ h1'
        subst h1
        have hcell := h3 k hlt
        have hx := HT.out d.L[k] (List.getElem_mem hlt)
        have HV : Hid (sizeT (d.L.take (k + 1)) = sizeT (d.L.take k) + (1 + d.L[k].size)) := Lib.hid (sizeT_take hlt)
        clear h3 h1'
        obtain ⟨z, hz⟩ : ∃ z, sizeT (d.L.take k) = z := ⟨_, rfl⟩
        rw [hz] at HV hks ⊢
        clear hz
        go_wp2
        go_round
        case rel => exact ⟨k + 1, by go_num, by omega, by rw [HV.out]; go_num⟩
        case measure => simp [intOf]; omega
    · obtain rfl : k = d.L.length := by omega
      go_wp2
      go_ret
      exact ⟨rfl, HB.out⟩

/-! ### Texts are put -/
theorem put1T {base g M b : Nat} {F : Nat → Prop} {s : PS} (x : ByteArray) (w : World) (h : PK w base F g M s) (hb : w.cell? ⟨b, 0, none⟩ = some (pp g)) (hF : ¬ F b) (hlt : b < w.heap.size) (hx : x.size ≤ 255) :
    Calls Tryz.prog 212 #[.string x, .pointer (some ⟨b, 0, none⟩)] w (Pkr w base F g M (textS1 M s x).2 (.int .i64 ((textS1 M s x).1 : Nat))) := by
  have HN := Lib.hid (pNumber_any h x.size 1 (by omega))
  by_cases h0 : (numS M s x.size 1).1 = 0
  · have HV : Hid (textS1 M s x = putS M (numS M s x.size 1).2 (bs x)) := Lib.hid (if_pos h0)
    rw [h0] at HN
    have HP := Lib.hid fun wx F' (hx' : PK wx base F' g M (numS M s x.size 1).2) => pPut_any hx' x (by omega)
    have HK := Lib.hid fun wx F' (hk : Kf base F F' w wx) => (World.cell?_of_block (w := w) (w' := wx) (a := ⟨b, 0, none⟩) (hk.rest b hlt hF)).trans hb
    obtain ⟨q, hq⟩ : ∃ q, (numS M s x.size 1).2 = q := ⟨_, rfl⟩
    rw [hq] at HN HV HP
    clear hq h0 h
    go_enter Tryz.func212, Tryz.ntmps212
    go_wp2_with (first | (go_at_call 34; (with_reducible refine HN.out.mono ?_); rintro e w1 ⟨rfl, F1, h1, h2⟩; have hc1 := HK.out _ _ h2; have H1 := Lib.hid h1; have H2 := Lib.hid h2; clear h1 h2) | (go_at_call 92; (with_reducible refine (HP.out _ _ H1.out).mono ?_); rintro e w2 ⟨rfl, F2, h1, h2⟩; have H3 := Lib.hid h1; have H4 := Lib.hid h2; clear h1 h2))
    go_ret
    rw [HV.out]
    exact ⟨rfl, F2, H3.out, H2.out.trans H4.out⟩
  · have HV : Hid (textS1 M s x = numS M s x.size 1) := Lib.hid (if_neg h0)
    have hne : (((numS M s x.size 1).1 : Nat) : Int) != 0 := by rw [bne_iff_ne]; omega
    obtain ⟨q, hq⟩ : ∃ q, numS M s x.size 1 = q := ⟨_, rfl⟩
    rw [hq] at HN HV hne
    clear hq h0 h
    go_enter Tryz.func212, Tryz.ntmps212
    go_wp2_with (go_at_call 34; (with_reducible refine HN.out.mono ?_); rintro e w1 ⟨rfl, F1, h1, h2⟩; have H1 := Lib.hid h1; have H2 := Lib.hid h2; clear h1 h2)
    go_ret
    rw [HV.out]
    exact ⟨rfl, F1, H1.out, H2.out⟩

theorem textsS_step {M : Nat} {L : List ByteArray} {s : PS} {k : Nat} (hk : k < L.length) : textsS M (L.drop k) s = if (textS1 M s L[k]).1 = 0 then textsS M (L.drop (k + 1)) (textS1 M s L[k]).2 else textS1 M s L[k] := by
  rw [List.drop_eq_getElem_cons hk]
  rfl
theorem putTexts_first {base g M b : Nat} {F : Nat → Prop} {s : PS} (L : List ByteArray) (tv : Value) (w : World) (h : PK w base F g M s) (hb : w.cell? ⟨b, 0, none⟩ = some (pp g)) (hF : ¬ F b) (hlt : b < w.heap.size)
    (hm : L.length ≤ maxLen) (hr : SRow w tv L) (hbk : ∀ j, blk tv = some j → j < base) (ht : ∀ x ∈ L, x.size ≤ 255) :
    Calls Tryz.prog 210 #[tv, .func (.func 212) #[] #[.pointer (some ⟨b, 0, none⟩)]] w (Pkr w base F g M (textsS M L s).2 (.int .i64 ((textsS M L s).1 : Nat))) := by
  refine (firstS_any tv L _ _ (fun k wx => ∃ F' s', PK wx base F' g M s' ∧ Kf base F F' w wx ∧ textsS M (L.drop k) s' = textsS M L s)
    (fun x wx => ∃ F' s', PK wx base F' g M s' ∧ Kf base F F' w wx ∧ textsS M L s = (x, s')) w goesT2 hm (fun k wx hJ => ?_) ⟨F, s, h, Kf.refl _ _ _, rfl⟩ ?_).mono ?_
  · obtain ⟨F', s', h1, h2, _⟩ := hJ
    exact hr.far h2.below.size fun j hj => h2.below.block j (hbk j hj)
  · rintro k wx hk ⟨F', s', h1, h2, h3⟩
    rw [textsS_step hk] at h3
    refine (put1T L[k] wx h1 ((World.cell?_of_block (w := w) (w' := wx) (a := ⟨b, 0, none⟩) (h2.rest b hlt hF)).trans hb) (fun hf => ?_) (Nat.lt_of_lt_of_le hlt h2.below.size) (ht _ (List.getElem_mem hk))).mono ?_
    · rcases h2.sub b hf with h' | h'
      · exact hF h'
      · omega
    · rintro e w' ⟨rfl, F'', h4, h5⟩
      refine ⟨_, rfl, ?_⟩
      by_cases h0 : (textS1 M s' L[k]).1 = 0
      · rw [if_pos h0] at h3
        exact .inl ⟨h0, F'', _, h4, h2.trans h5, h3⟩
      · rw [if_neg h0] at h3
        exact .inr ⟨h0, F'', _, h4, h2.trans h5, h3.symm⟩
  · rintro e w' ⟨x, rfl, (⟨rfl, F', s', h1, h2, h3⟩ | ⟨_, F', s', h1, h2, h3⟩)⟩
    · rw [List.drop_length] at h3
      rw [← h3]
      exact ⟨rfl, F', h1, h2⟩
    · rw [h3]
      exact ⟨rfl, F', h1, h2⟩
theorem txt4 {base g M : Nat} {F : Nat → Prop} {s : PS} (d : MD) (tv : Value) (w : World) (h : PK w base F g M s) (hf : Fit w d tv) (hbk : ∀ j, blk tv = some j → j < base) (hc : chkK [.txt] d = 0) :
    Calls Tryz.prog 198 #[pp g, dataV d tv] w (Pkr w base F g M (putK M [.txt] d s).2 (.int .i64 ((putK M [.txt] d s).1 : Nat))) := by
  rw [put_one, show putP M .txt d s = textsS M d.L s from rfl]
  have hb1 : Below w.heap.size w (w.alloc (.cells #[pp g] 35)) := (Below.refl _ _).alloc (Nat.le_refl _) _
  have hb2 : Below w.heap.size w ((w.alloc (.cells #[pp g] 35)).alloc (.cells (cellsD d tv) 30)) := hb1.alloc (by simp) _
  have h2 := h.next hb2
  have HK := Lib.hid (Kf.of_below (base := base) (F := F) hb2 h.base_le)
  have hbox : ((w.alloc (.cells #[pp g] 35)).alloc (.cells (cellsD d tv) 30)).cell? ⟨w.heap.size, 0, none⟩ = some (pp g) := ((Lies.new w 35 #[pp g]).alloc _).cell 0
  have HP := Lib.hid (putTexts_first (b := w.heap.size) d.L tv _ h2 hbox (fun hF => by have := (h.lt hF).2; omega) (by simp; omega) (by have := hf.tl; unfold maxLen; omega) (hf.row.next hb2) hbk (txt_ok hc))
  obtain ⟨q, hq⟩ : ∃ q, textsS M d.L s = q := ⟨_, rfl⟩
  rw [hq] at HP ⊢
  clear hq h2 hb1 hb2 hbox h hf hbk hc
  unfold dataV cellsD
  go_enter Tryz.func198, Tryz.ntmps198
  go_wp2_with (go_at_call 210; (with_reducible refine HP.out.mono ?_); rintro e w1 ⟨rfl, F1, h1, h2⟩; have H1 := Lib.hid h1; have H2 := Lib.hid h2; clear h1 h2)
  go_ret
  exact ⟨rfl, F1, H1.out, HK.out.trans H2.out⟩
end Go.Proofs.YtodedbokeodmkaaGreat
namespace Go.Proofs.YtodedbokeodmkaaGreat
open Go.RowKit
set_option linter.unusedVariables false
set_option maxRecDepth 100000

def Wd (n : Int) : Prop := n = 0 ∨ n = 2 ∨ n = 4
abbrev wsV (a b c d e : Int) : Value := .agg #[.int .i64 a, .int .i64 b, .int .i64 c, .int .i64 d, .int .i64 e]
abbrev nsV (a b c d e : Nat) : Value := .agg #[.int .u32 (a : Int), .int .u32 (b : Int), .int .u32 (c : Int), .int .u32 (d : Int), .int .u32 (e : Int)]
abbrev wsL (a b c d e : Int) : List Nat := [a.toNat, b.toNat, c.toNat, d.toNat, e.toNat]
section
variable (a b c d e : Int)
theorem ixW (w : World) : (Instr.index 212 (wsV a b c d e) (.int .i64 0)).run Tryz.prog w = .ok (.int .i64 a) w ∧ (Instr.index 212 (wsV a b c d e) (.int .i64 1)).run Tryz.prog w = .ok (.int .i64 b) w ∧
    (Instr.index 212 (wsV a b c d e) (.int .i64 2)).run Tryz.prog w = .ok (.int .i64 c) w ∧ (Instr.index 212 (wsV a b c d e) (.int .i64 3)).run Tryz.prog w = .ok (.int .i64 d) w ∧ (Instr.index 212 (wsV a b c d e) (.int .i64 4)).run Tryz.prog w = .ok (.int .i64 e) w :=
  ⟨by kernel_rfl, by kernel_rfl, by kernel_rfl, by kernel_rfl, by kernel_rfl⟩
end
theorem wd_le {n : Int} (h : Wd n) : 0 ≤ n ∧ n ≤ 4 := by rcases h with rfl | rfl | rfl <;> decide
theorem chkW_cons {v n : Nat} {vs ns : List Nat} : chkW (v :: vs) (n :: ns) = if wideN v n then 2 else chkW vs ns := rfl
theorem chk_yes {b : Bool} {x R : Nat} (hR : (if b = true then 2 else x) = R) (h : b = true) : R = 2 := by rw [if_pos h] at hR; exact hR.symm
theorem chk_no {b : Bool} {x R : Nat} (hR : (if b = true then 2 else x) = R) (h : b = false) : x = R := by rw [if_neg (by rw [h]; decide)] at hR; exact hR
theorem wide0 (v : Nat) : ((v : Int) != 0) = wideN v (0 : Int).toNat := by
  unfold wideN
  rw [Bool.eq_iff_iff]
  simp
theorem wide2 (v : Nat) : ((v : Int) / 65536 != 0) = wideN v (2 : Int).toNat := by
  unfold wideN
  rw [Bool.eq_iff_iff, bne_iff_ne, decide_eq_true_iff]
  show (v : Int) / 65536 ≠ 0 ↔ v / 65536 ≠ 0
  omega
theorem wide4 (v : Nat) (h : v < 4294967296) : wideN v (4 : Int).toNat = false := by
  unfold wideN
  rw [decide_eq_false_iff_not, Decidable.not_not]
  show v / 4294967296 = 0
  omega
/-- Where the check's loop stands. -/
def CwRel (v0 v1 v2 v3 v4 : Nat) (a b c d e : Int) (R : Nat) (i : Value) : Prop :=
  (i = .int .i64 0 ∧ chkW [v0, v1, v2, v3, v4] [a.toNat, b.toNat, c.toNat, d.toNat, e.toNat] = R) ∨ (i = .int .i64 1 ∧ chkW [v1, v2, v3, v4] [b.toNat, c.toNat, d.toNat, e.toNat] = R) ∨ (i = .int .i64 2 ∧ chkW [v2, v3, v4] [c.toNat, d.toNat, e.toNat] = R) ∨ (i = .int .i64 3 ∧ chkW [v3, v4] [d.toNat, e.toNat] = R) ∨ (i = .int .i64 4 ∧ chkW [v4] [e.toNat] = R) ∨ (i = .int .i64 5 ∧ 0 = R)
set_option maxHeartbeats 2000000 in
theorem wCheck_any (v0 v1 v2 v3 v4 : Nat) (a b c d e : Int) (w : World) (ha : Wd a) (hb : Wd b) (hc : Wd c) (hd : Wd d) (he : Wd e) (h0 : v0 < 4294967296) (h1 : v1 < 4294967296) (h2 : v2 < 4294967296) (h3 : v3 < 4294967296) (h4 : v4 < 4294967296) :
    Calls Tryz.prog 188 #[wsV a b c d e, nsV v0 v1 v2 v3 v4] w (Told w (.int .i64 ((chkW [v0, v1, v2, v3, v4] (wsL a b c d e) : Nat) : Int))) := by
  have HB : Hid (∀ o o', Below w.heap.size w ((w.alloc o).alloc o')) := Lib.hid fun o o' => ((Below.refl _ _).alloc (Nat.le_refl _) o).alloc (by simp) o'
  have HI := Lib.hid (fun w => ixW a b c d e w)
  have HA := Lib.hid ha
  have HBd := Lib.hid hb
  have HC := Lib.hid hc
  have HD := Lib.hid hd
  have HE := Lib.hid he
  obtain ⟨R, hR⟩ : ∃ R, chkW [v0, v1, v2, v3, v4] (wsL a b c d e) = R := ⟨_, rfl⟩
  rw [hR]
  have H0 : Hid (CwRel v0 v1 v2 v3 v4 a b c d e R (.int .i64 0)) := Lib.hid (.inl ⟨rfl, hR⟩)
  clear hR ha hb hc hd he
  go_enter Tryz.func188, Tryz.ntmps188
  go_wp2
  go_loop [8] (fun i => CwRel v0 v1 v2 v3 v4 a b c d e R i) (fun i => 5 - (intOf i).toNat)
  case atStart => exact H0.out
  case round =>
    clear H0
    rcases hrel with ⟨rfl, hR⟩ | ⟨rfl, hR⟩ | ⟨rfl, hR⟩ | ⟨rfl, hR⟩ | ⟨rfl, hR⟩ | ⟨rfl, hR⟩
    · have hi := fun w => (HI.out w).1
      rw [chkW_cons] at hR
      have HR := Lib.hid hR
      clear hR
      rcases HA.out with rfl | rfl | rfl
      · go_wp2
        · have hx : ((v0 : Int) != 0) = true := by assumption
          rw [wide0] at hx
          go_ret
          rw [chk_yes HR.out hx]
          exact ⟨rfl, HB.out _ _⟩
        · have hx : ((v0 : Int) != 0) = false := by assumption
          rw [wide0] at hx
          exact ⟨.inr (.inl ⟨rfl, chk_no HR.out hx⟩), by decide⟩
      · go_wp2
        · have hx : ((v0 : Int) / 65536 != 0) = true := by assumption
          rw [wide2] at hx
          go_ret
          rw [chk_yes HR.out hx]
          exact ⟨rfl, HB.out _ _⟩
        · have hx : ((v0 : Int) / 65536 != 0) = false := by assumption
          rw [wide2] at hx
          exact ⟨.inr (.inl ⟨rfl, chk_no HR.out hx⟩), by decide⟩
      · go_wp2
        have hx := wide4 v0 h0
        exact ⟨.inr (.inl ⟨rfl, chk_no HR.out hx⟩), by decide⟩
    · have hi := fun w => (HI.out w).2.1
      rw [chkW_cons] at hR
      have HR := Lib.hid hR
      clear hR
      rcases HBd.out with rfl | rfl | rfl
      · go_wp2
        · have hx : ((v1 : Int) != 0) = true := by assumption
          rw [wide0] at hx
          go_ret
          rw [chk_yes HR.out hx]
          exact ⟨rfl, HB.out _ _⟩
        · have hx : ((v1 : Int) != 0) = false := by assumption
          rw [wide0] at hx
          exact ⟨.inr (.inr (.inl ⟨rfl, chk_no HR.out hx⟩)), by decide⟩
      · go_wp2
        · have hx : ((v1 : Int) / 65536 != 0) = true := by assumption
          rw [wide2] at hx
          go_ret
          rw [chk_yes HR.out hx]
          exact ⟨rfl, HB.out _ _⟩
        · have hx : ((v1 : Int) / 65536 != 0) = false := by assumption
          rw [wide2] at hx
          exact ⟨.inr (.inr (.inl ⟨rfl, chk_no HR.out hx⟩)), by decide⟩
      · go_wp2
        have hx := wide4 v1 h1
        exact ⟨.inr (.inr (.inl ⟨rfl, chk_no HR.out hx⟩)), by decide⟩
    · have hi := fun w => (HI.out w).2.2.1
      rw [chkW_cons] at hR
      have HR := Lib.hid hR
      clear hR
      rcases HC.out with rfl | rfl | rfl
      · go_wp2
        · have hx : ((v2 : Int) != 0) = true := by assumption
          rw [wide0] at hx
          go_ret
          rw [chk_yes HR.out hx]
          exact ⟨rfl, HB.out _ _⟩
        · have hx : ((v2 : Int) != 0) = false := by assumption
          rw [wide0] at hx
          exact ⟨.inr (.inr (.inr (.inl ⟨rfl, chk_no HR.out hx⟩))), by decide⟩
      · go_wp2
        · have hx : ((v2 : Int) / 65536 != 0) = true := by assumption
          rw [wide2] at hx
          go_ret
          rw [chk_yes HR.out hx]
          exact ⟨rfl, HB.out _ _⟩
        · have hx : ((v2 : Int) / 65536 != 0) = false := by assumption
          rw [wide2] at hx
          exact ⟨.inr (.inr (.inr (.inl ⟨rfl, chk_no HR.out hx⟩))), by decide⟩
      · go_wp2
        have hx := wide4 v2 h2
        exact ⟨.inr (.inr (.inr (.inl ⟨rfl, chk_no HR.out hx⟩))), by decide⟩
    · have hi := fun w => (HI.out w).2.2.2.1
      rw [chkW_cons] at hR
      have HR := Lib.hid hR
      clear hR
      rcases HD.out with rfl | rfl | rfl
      · go_wp2
        · have hx : ((v3 : Int) != 0) = true := by assumption
          rw [wide0] at hx
          go_ret
          rw [chk_yes HR.out hx]
          exact ⟨rfl, HB.out _ _⟩
        · have hx : ((v3 : Int) != 0) = false := by assumption
          rw [wide0] at hx
          exact ⟨.inr (.inr (.inr (.inr (.inl ⟨rfl, chk_no HR.out hx⟩)))), by decide⟩
      · go_wp2
        · have hx : ((v3 : Int) / 65536 != 0) = true := by assumption
          rw [wide2] at hx
          go_ret
          rw [chk_yes HR.out hx]
          exact ⟨rfl, HB.out _ _⟩
        · have hx : ((v3 : Int) / 65536 != 0) = false := by assumption
          rw [wide2] at hx
          exact ⟨.inr (.inr (.inr (.inr (.inl ⟨rfl, chk_no HR.out hx⟩)))), by decide⟩
      · go_wp2
        have hx := wide4 v3 h3
        exact ⟨.inr (.inr (.inr (.inr (.inl ⟨rfl, chk_no HR.out hx⟩)))), by decide⟩
    · have hi := fun w => (HI.out w).2.2.2.2
      rw [chkW_cons] at hR
      have HR := Lib.hid hR
      clear hR
      rcases HE.out with rfl | rfl | rfl
      · go_wp2
        · have hx : ((v4 : Int) != 0) = true := by assumption
          rw [wide0] at hx
          go_ret
          rw [chk_yes HR.out hx]
          exact ⟨rfl, HB.out _ _⟩
        · have hx : ((v4 : Int) != 0) = false := by assumption
          rw [wide0] at hx
          exact ⟨.inr (.inr (.inr (.inr (.inr ⟨rfl, chk_no HR.out hx⟩)))), by decide⟩
      · go_wp2
        · have hx : ((v4 : Int) / 65536 != 0) = true := by assumption
          rw [wide2] at hx
          go_ret
          rw [chk_yes HR.out hx]
          exact ⟨rfl, HB.out _ _⟩
        · have hx : ((v4 : Int) / 65536 != 0) = false := by assumption
          rw [wide2] at hx
          exact ⟨.inr (.inr (.inr (.inr (.inr ⟨rfl, chk_no HR.out hx⟩)))), by decide⟩
      · go_wp2
        have hx := wide4 v4 h4
        exact ⟨.inr (.inr (.inr (.inr (.inr ⟨rfl, chk_no HR.out hx⟩)))), by decide⟩
    · have HR := Lib.hid hR
      clear hR
      go_wp2
      go_ret
      rw [← HR.out]
      exact ⟨rfl, HB.out _ _⟩
/-- Where the sum's loop stands. -/
def SwRel (a b c d e : Int) (s i : Value) : Prop :=
  (i = .int .i64 0 ∧ s = .int .i64 0) ∨ (i = .int .i64 1 ∧ s = .int .i64 a) ∨ (i = .int .i64 2 ∧ s = .int .i64 (a + b)) ∨ (i = .int .i64 3 ∧ s = .int .i64 (a + b + c)) ∨ (i = .int .i64 4 ∧ s = .int .i64 (a + b + c + d)) ∨ (i = .int .i64 5 ∧ s = .int .i64 (a + b + c + d + e))
set_option maxHeartbeats 2000000 in
theorem wSum_any (a b c d e : Int) (w : World) (ha : Wd a) (hb : Wd b) (hc : Wd c) (hd : Wd d) (he : Wd e) :
    Calls Tryz.prog 190 #[wsV a b c d e] w (Told w (.int .i64 (((wsL a b c d e).sum : Nat) : Int))) := by
  have HB : Hid (∀ o, Below w.heap.size w (w.alloc o)) := Lib.hid fun o => (Below.refl _ _).alloc (Nat.le_refl _) o
  have HI := Lib.hid (fun w => ixW a b c d e w)
  obtain ⟨a0, a1⟩ := wd_le ha
  obtain ⟨b0, b1⟩ := wd_le hb
  obtain ⟨c0, c1⟩ := wd_le hc
  obtain ⟨d0, d1⟩ := wd_le hd
  obtain ⟨e0, e1⟩ := wd_le he
  obtain ⟨z, hz⟩ : ∃ z : Nat, (wsL a b c d e).sum = z := ⟨_, rfl⟩
  have HS : Hid ((z : Int) = a + b + c + d + e) := Lib.hid (by rw [← hz]; simp [wsL]; omega)
  rw [hz]
  clear hz
  clear ha hb hc hd he
  go_enter Tryz.func190, Tryz.ntmps190
  go_wp2
  go_loop [3, 7] (fun s i => SwRel a b c d e s i) (fun _ i => 5 - (intOf i).toNat)
  case atStart => exact .inl ⟨rfl, rfl⟩
  case round =>
    rcases hrel with ⟨rfl, rfl⟩ | ⟨rfl, rfl⟩ | ⟨rfl, rfl⟩ | ⟨rfl, rfl⟩ | ⟨rfl, rfl⟩ | ⟨rfl, rfl⟩
    · have hi := fun w => (HI.out w).1
      go_wp2
      exact ⟨.inr (.inl ⟨rfl, rfl⟩), by decide⟩
    · have hi := fun w => (HI.out w).2.1
      go_wp2
      exact ⟨.inr (.inr (.inl ⟨rfl, rfl⟩)), by decide⟩
    · have hi := fun w => (HI.out w).2.2.1
      go_wp2
      exact ⟨.inr (.inr (.inr (.inl ⟨rfl, rfl⟩))), by decide⟩
    · have hi := fun w => (HI.out w).2.2.2.1
      go_wp2
      exact ⟨.inr (.inr (.inr (.inr (.inl ⟨rfl, rfl⟩)))), by decide⟩
    · have hi := fun w => (HI.out w).2.2.2.2
      go_wp2
      exact ⟨.inr (.inr (.inr (.inr (.inr ⟨rfl, rfl⟩)))), by decide⟩
    · go_wp2
      go_ret
      rw [HS.out]
      exact ⟨rfl, HB.out _⟩
/-! ### Numbers are put -/
/-- Where the writing stands: what is left to be put comes to Q. -/
def PwS (W : World) (base : Nat) (F : Nat → Prop) (g M : Nat) (vs ns : List Nat) (Q : Nat × PS) (wr : World) : Prop := ∃ F' s', PK wr base F' g M s' ∧ Kf base F F' W wr ∧ numsS M vs ns s' = Q
theorem numsS_cons {M v n : Nat} {vs ns : List Nat} {s : PS} : numsS M (v :: vs) (n :: ns) s = if n = 0 then numsS M vs ns s else if (numS M s v n).1 = 0 then numsS M vs ns (numS M s v n).2 else numS M s v n := rfl
theorem PwS.skip {W : World} {base : Nat} {F : Nat → Prop} {g M v : Nat} {vs ns : List Nat} {Q : Nat × PS} {wr : World} (h : PwS W base F g M (v :: vs) ((0 : Int).toNat :: ns) Q wr) : PwS W base F g M vs ns Q wr := h
def PwRel (v0 v1 v2 v3 v4 : Nat) (a b c d e : Int) (W : World) (base : Nat) (F : Nat → Prop) (g M : Nat) (Q : Nat × PS) (i : Value) (wr : World) : Prop :=
  (i = .int .i64 0 ∧ PwS W base F g M [v0, v1, v2, v3, v4] [a.toNat, b.toNat, c.toNat, d.toNat, e.toNat] Q wr) ∨ (i = .int .i64 1 ∧ PwS W base F g M [v1, v2, v3, v4] [b.toNat, c.toNat, d.toNat, e.toNat] Q wr) ∨ (i = .int .i64 2 ∧ PwS W base F g M [v2, v3, v4] [c.toNat, d.toNat, e.toNat] Q wr) ∨ (i = .int .i64 3 ∧ PwS W base F g M [v3, v4] [d.toNat, e.toNat] Q wr) ∨ (i = .int .i64 4 ∧ PwS W base F g M [v4] [e.toNat] Q wr) ∨ (i = .int .i64 5 ∧ PwS W base F g M [] [] Q wr)
/-- The box of the numbers stays. -/
theorem box5 {W wr : World} {base b : Nat} {F F' : Nat → Prop} {v0 v1 v2 v3 v4 : Value} (hL : Lies W b 27 #[v0, v1, v2, v3, v4]) (hF : ¬ F b) (hk : Kf base F F' W wr) :
    wr.cell? ⟨b, 0, none⟩ = some v0 ∧ wr.cell? ⟨b, 1, none⟩ = some v1 ∧ wr.cell? ⟨b, 2, none⟩ = some v2 ∧ wr.cell? ⟨b, 3, none⟩ = some v3 ∧ wr.cell? ⟨b, 4, none⟩ = some v4 := by
  have h : Lies wr b 27 #[v0, v1, v2, v3, v4] := (hk.rest b hL.lt hF).trans hL
  exact ⟨h.cell 0, h.cell 1, h.cell 2, h.cell 3, h.cell 4⟩
theorem PwS.num {W wr : World} {base : Nat} {F : Nat → Prop} {g M v n : Nat} {vs ns : List Nat} {Q : Nat × PS} (h : PwS W base F g M (v :: vs) (n :: ns) Q wr) (hn : n ≠ 0) (hv : v < 4294967296) {i : Int} (hi : (n : Int) = i) :
    Calls Tryz.prog 34 #[pp g, .int .u32 (v : Int), .int .i64 i] wr fun e w' => ∃ x : Nat, e = .returned (.int .i64 (x : Int)) ∧ ((x = 0 ∧ PwS W base F g M vs ns Q w') ∨ (x ≠ 0 ∧ ∃ F' s', PK w' base F' g M s' ∧ Kf base F F' W w' ∧ (x, s') = Q)) := by
  subst hi
  obtain ⟨F', s', h1, h2, h3⟩ := h
  rw [numsS_cons, if_neg hn] at h3
  refine (pNumber_any h1 v n hv).mono ?_
  rintro e w' ⟨rfl, F'', h4, h5⟩
  refine ⟨_, rfl, ?_⟩
  by_cases h0 : (numS M s' v n).1 = 0
  · rw [if_pos h0] at h3
    exact .inl ⟨h0, F'', _, h4, h2.trans h5, h3⟩
  · rw [if_neg h0] at h3
    exact .inr ⟨h0, F'', _, h4, h2.trans h5, h3⟩
theorem PwS.end' {W : World} {base : Nat} {F : Nat → Prop} {g M : Nat} {Q : Nat × PS} {wr : World} (h : PwS W base F g M [] [] Q wr) : Pkr W base F g M Q.2 (.int .i64 ((Q.1 : Nat) : Int)) (.returned (.int .i64 0)) wr := by
  obtain ⟨F', s', h1, h2, rfl⟩ := h
  exact ⟨rfl, F', h1, h2⟩
theorem ne_of_bne {x : Nat} (h : ((x : Int) != 0) = true) : x ≠ 0 := fun e => by rw [e] at h; exact absurd h (by decide)
theorem eq_of_bne {x : Nat} (h : ((x : Int) != 0) = false) : x = 0 := Classical.byContradiction fun e => by simp [e] at h
set_option maxHeartbeats 4000000 in
theorem wPut2_any {base g M : Nat} {F : Nat → Prop} {s : PS} (v0 v1 v2 v3 v4 : Nat) (a b c d e : Int) (w : World) (ha : Wd a) (hb : Wd b) (hc : Wd c) (hd : Wd d) (he : Wd e) (h0 : v0 < 4294967296) (h1 : v1 < 4294967296) (h2 : v2 < 4294967296) (h3 : v3 < 4294967296) (h4 : v4 < 4294967296) (h : PK w base F g M s) :
    Calls Tryz.prog 192 #[wsV a b c d e, pp g, nsV v0 v1 v2 v3 v4] w (Pkr w base F g M (numsS M [v0, v1, v2, v3, v4] (wsL a b c d e) s).2 (.int .i64 ((numsS M [v0, v1, v2, v3, v4] (wsL a b c d e) s).1 : Nat))) := by
  obtain ⟨W, hW⟩ : ∃ W, W = (w.alloc (.cells #[.int .i64 a, .int .i64 b, .int .i64 c, .int .i64 d, .int .i64 e] 212)).alloc (.cells #[.int .u32 (v0 : Int), .int .u32 (v1 : Int), .int .u32 (v2 : Int), .int .u32 (v3 : Int), .int .u32 (v4 : Int)] 27) := ⟨_, rfl⟩
  have hb2 : Below w.heap.size w W := by rw [hW]; exact ((Below.refl _ _).alloc (Nat.le_refl _) _).alloc (by simp) _
  have HL : Hid (Lies W (w.heap.size + 1) 27 #[.int .u32 (v0 : Int), .int .u32 (v1 : Int), .int .u32 (v2 : Int), .int .u32 (v3 : Int), .int .u32 (v4 : Int)]) := Lib.hid (by
    have := Lies.new (w.alloc (.cells #[.int .i64 a, .int .i64 b, .int .i64 c, .int .i64 d, .int .i64 e] 212)) 27 #[.int .u32 (v0 : Int), .int .u32 (v1 : Int), .int .u32 (v2 : Int), .int .u32 (v3 : Int), .int .u32 (v4 : Int)]
    rw [hW]
    simpa using this)
  have hL0 : Lies W w.heap.size 212 #[.int .i64 a, .int .i64 b, .int .i64 c, .int .i64 d, .int .i64 e] := by rw [hW]; exact (Lies.new w _ _).alloc _
  have HF : Hid (¬ F (w.heap.size + 1)) := Lib.hid fun hf => by have := (h.lt hf).2; omega
  have HK := Lib.hid (Kf.of_below (base := base) (F := F) hb2 h.base_le)
  have h' := h.next hb2
  have HI := Lib.hid (fun w => ixW a b c d e w)
  have HA := Lib.hid ha
  have HBd := Lib.hid hb
  have HC := Lib.hid hc
  have HD := Lib.hid hd
  have HE := Lib.hid he
  obtain ⟨Q, hQ⟩ : ∃ Q, numsS M [v0, v1, v2, v3, v4] (wsL a b c d e) s = Q := ⟨_, rfl⟩
  rw [hQ]
  have H0 : Hid (PwRel v0 v1 v2 v3 v4 a b c d e W base F g M Q (.int .i64 0) W) := Lib.hid (.inl ⟨rfl, F, s, h', Kf.refl _ _ _, hQ⟩)
  have c0 := hL0.cell 0
  have c1 := hL0.cell 1
  have c2 := hL0.cell 2
  have c3 := hL0.cell 3
  have c4 := hL0.cell 4
  clear hQ ha hb hc hd he h h' hb2
  go_enter Tryz.func192, Tryz.ntmps192
  go_upto_region 1 with (fail)
  rw [← hW]
  clear hW
  go_wp2
  clear c0 c1 c2 c3 c4 hL0
  go_loopw [11] (fun i wr => PwRel v0 v1 v2 v3 v4 a b c d e W base F g M Q i wr) (fun i _ => 5 - (intOf i).toNat)
  case atStart => exact H0.out
  case round =>
    clear H0
    rcases hrel with ⟨rfl, hR⟩ | ⟨rfl, hR⟩ | ⟨rfl, hR⟩ | ⟨rfl, hR⟩ | ⟨rfl, hR⟩ | ⟨rfl, hR⟩
    · have hi := fun w => (HI.out w).1
      obtain ⟨c0, c1, c2, c3, c4⟩ := (let ⟨_, _, _, hk, _⟩ := hR; box5 HL.out HF.out hk)
      have HR := Lib.hid hR
      clear hR
      rcases HA.out with rfl | rfl | rfl
      · go_wp2
        exact ⟨.inr (.inl ⟨rfl, HR.out.skip⟩), by decide⟩
      · have HN := Lib.hid (HR.out.num (i := 2) (by decide) h0 rfl)
        go_wp2_with (go_at_call 34; (with_reducible refine HN.out.mono ?_); rintro e w1 ⟨x, rfl, hx⟩; have HX := Lib.hid hx; clear hx)
        · have hx := ne_of_bne (x := x) (by assumption)
          go_ret
          obtain ⟨F', s', x1, x2, x3⟩ := (HX.out.resolve_left fun h => hx h.1).2
          rw [← x3]
          exact ⟨rfl, F', x1, HK.out.trans x2⟩
        · have hx := eq_of_bne (x := x) (by assumption)
          exact ⟨.inr (.inl ⟨rfl, (HX.out.resolve_right fun h => h.1 hx).2⟩), by decide⟩
      · have HN := Lib.hid (HR.out.num (i := 4) (by decide) h0 rfl)
        go_wp2_with (go_at_call 34; (with_reducible refine HN.out.mono ?_); rintro e w1 ⟨x, rfl, hx⟩; have HX := Lib.hid hx; clear hx)
        · have hx := ne_of_bne (x := x) (by assumption)
          go_ret
          obtain ⟨F', s', x1, x2, x3⟩ := (HX.out.resolve_left fun h => hx h.1).2
          rw [← x3]
          exact ⟨rfl, F', x1, HK.out.trans x2⟩
        · have hx := eq_of_bne (x := x) (by assumption)
          exact ⟨.inr (.inl ⟨rfl, (HX.out.resolve_right fun h => h.1 hx).2⟩), by decide⟩
    · have hi := fun w => (HI.out w).2.1
      obtain ⟨c0, c1, c2, c3, c4⟩ := (let ⟨_, _, _, hk, _⟩ := hR; box5 HL.out HF.out hk)
      have HR := Lib.hid hR
      clear hR
      rcases HBd.out with rfl | rfl | rfl
      · go_wp2
        exact ⟨.inr (.inr (.inl ⟨rfl, HR.out.skip⟩)), by decide⟩
      · have HN := Lib.hid (HR.out.num (i := 2) (by decide) h1 rfl)
        go_wp2_with (go_at_call 34; (with_reducible refine HN.out.mono ?_); rintro e w1 ⟨x, rfl, hx⟩; have HX := Lib.hid hx; clear hx)
        · have hx := ne_of_bne (x := x) (by assumption)
          go_ret
          obtain ⟨F', s', x1, x2, x3⟩ := (HX.out.resolve_left fun h => hx h.1).2
          rw [← x3]
          exact ⟨rfl, F', x1, HK.out.trans x2⟩
        · have hx := eq_of_bne (x := x) (by assumption)
          exact ⟨.inr (.inr (.inl ⟨rfl, (HX.out.resolve_right fun h => h.1 hx).2⟩)), by decide⟩
      · have HN := Lib.hid (HR.out.num (i := 4) (by decide) h1 rfl)
        go_wp2_with (go_at_call 34; (with_reducible refine HN.out.mono ?_); rintro e w1 ⟨x, rfl, hx⟩; have HX := Lib.hid hx; clear hx)
        · have hx := ne_of_bne (x := x) (by assumption)
          go_ret
          obtain ⟨F', s', x1, x2, x3⟩ := (HX.out.resolve_left fun h => hx h.1).2
          rw [← x3]
          exact ⟨rfl, F', x1, HK.out.trans x2⟩
        · have hx := eq_of_bne (x := x) (by assumption)
          exact ⟨.inr (.inr (.inl ⟨rfl, (HX.out.resolve_right fun h => h.1 hx).2⟩)), by decide⟩
    · have hi := fun w => (HI.out w).2.2.1
      obtain ⟨c0, c1, c2, c3, c4⟩ := (let ⟨_, _, _, hk, _⟩ := hR; box5 HL.out HF.out hk)
      have HR := Lib.hid hR
      clear hR
      rcases HC.out with rfl | rfl | rfl
      · go_wp2
        exact ⟨.inr (.inr (.inr (.inl ⟨rfl, HR.out.skip⟩))), by decide⟩
      · have HN := Lib.hid (HR.out.num (i := 2) (by decide) h2 rfl)
        go_wp2_with (go_at_call 34; (with_reducible refine HN.out.mono ?_); rintro e w1 ⟨x, rfl, hx⟩; have HX := Lib.hid hx; clear hx)
        · have hx := ne_of_bne (x := x) (by assumption)
          go_ret
          obtain ⟨F', s', x1, x2, x3⟩ := (HX.out.resolve_left fun h => hx h.1).2
          rw [← x3]
          exact ⟨rfl, F', x1, HK.out.trans x2⟩
        · have hx := eq_of_bne (x := x) (by assumption)
          exact ⟨.inr (.inr (.inr (.inl ⟨rfl, (HX.out.resolve_right fun h => h.1 hx).2⟩))), by decide⟩
      · have HN := Lib.hid (HR.out.num (i := 4) (by decide) h2 rfl)
        go_wp2_with (go_at_call 34; (with_reducible refine HN.out.mono ?_); rintro e w1 ⟨x, rfl, hx⟩; have HX := Lib.hid hx; clear hx)
        · have hx := ne_of_bne (x := x) (by assumption)
          go_ret
          obtain ⟨F', s', x1, x2, x3⟩ := (HX.out.resolve_left fun h => hx h.1).2
          rw [← x3]
          exact ⟨rfl, F', x1, HK.out.trans x2⟩
        · have hx := eq_of_bne (x := x) (by assumption)
          exact ⟨.inr (.inr (.inr (.inl ⟨rfl, (HX.out.resolve_right fun h => h.1 hx).2⟩))), by decide⟩
    · have hi := fun w => (HI.out w).2.2.2.1
      obtain ⟨c0, c1, c2, c3, c4⟩ := (let ⟨_, _, _, hk, _⟩ := hR; box5 HL.out HF.out hk)
      have HR := Lib.hid hR
      clear hR
      rcases HD.out with rfl | rfl | rfl
      · go_wp2
        exact ⟨.inr (.inr (.inr (.inr (.inl ⟨rfl, HR.out.skip⟩)))), by decide⟩
      · have HN := Lib.hid (HR.out.num (i := 2) (by decide) h3 rfl)
        go_wp2_with (go_at_call 34; (with_reducible refine HN.out.mono ?_); rintro e w1 ⟨x, rfl, hx⟩; have HX := Lib.hid hx; clear hx)
        · have hx := ne_of_bne (x := x) (by assumption)
          go_ret
          obtain ⟨F', s', x1, x2, x3⟩ := (HX.out.resolve_left fun h => hx h.1).2
          rw [← x3]
          exact ⟨rfl, F', x1, HK.out.trans x2⟩
        · have hx := eq_of_bne (x := x) (by assumption)
          exact ⟨.inr (.inr (.inr (.inr (.inl ⟨rfl, (HX.out.resolve_right fun h => h.1 hx).2⟩)))), by decide⟩
      · have HN := Lib.hid (HR.out.num (i := 4) (by decide) h3 rfl)
        go_wp2_with (go_at_call 34; (with_reducible refine HN.out.mono ?_); rintro e w1 ⟨x, rfl, hx⟩; have HX := Lib.hid hx; clear hx)
        · have hx := ne_of_bne (x := x) (by assumption)
          go_ret
          obtain ⟨F', s', x1, x2, x3⟩ := (HX.out.resolve_left fun h => hx h.1).2
          rw [← x3]
          exact ⟨rfl, F', x1, HK.out.trans x2⟩
        · have hx := eq_of_bne (x := x) (by assumption)
          exact ⟨.inr (.inr (.inr (.inr (.inl ⟨rfl, (HX.out.resolve_right fun h => h.1 hx).2⟩)))), by decide⟩
    · have hi := fun w => (HI.out w).2.2.2.2
      obtain ⟨c0, c1, c2, c3, c4⟩ := (let ⟨_, _, _, hk, _⟩ := hR; box5 HL.out HF.out hk)
      have HR := Lib.hid hR
      clear hR
      rcases HE.out with rfl | rfl | rfl
      · go_wp2
        exact ⟨.inr (.inr (.inr (.inr (.inr ⟨rfl, HR.out.skip⟩)))), by decide⟩
      · have HN := Lib.hid (HR.out.num (i := 2) (by decide) h4 rfl)
        go_wp2_with (go_at_call 34; (with_reducible refine HN.out.mono ?_); rintro e w1 ⟨x, rfl, hx⟩; have HX := Lib.hid hx; clear hx)
        · have hx := ne_of_bne (x := x) (by assumption)
          go_ret
          obtain ⟨F', s', x1, x2, x3⟩ := (HX.out.resolve_left fun h => hx h.1).2
          rw [← x3]
          exact ⟨rfl, F', x1, HK.out.trans x2⟩
        · have hx := eq_of_bne (x := x) (by assumption)
          exact ⟨.inr (.inr (.inr (.inr (.inr ⟨rfl, (HX.out.resolve_right fun h => h.1 hx).2⟩)))), by decide⟩
      · have HN := Lib.hid (HR.out.num (i := 4) (by decide) h4 rfl)
        go_wp2_with (go_at_call 34; (with_reducible refine HN.out.mono ?_); rintro e w1 ⟨x, rfl, hx⟩; have HX := Lib.hid hx; clear hx)
        · have hx := ne_of_bne (x := x) (by assumption)
          go_ret
          obtain ⟨F', s', x1, x2, x3⟩ := (HX.out.resolve_left fun h => hx h.1).2
          rw [← x3]
          exact ⟨rfl, F', x1, HK.out.trans x2⟩
        · have hx := eq_of_bne (x := x) (by assumption)
          exact ⟨.inr (.inr (.inr (.inr (.inr ⟨rfl, (HX.out.resolve_right fun h => h.1 hx).2⟩)))), by decide⟩
    · have HR := Lib.hid hR
      clear hR
      go_wp2
      go_ret
      obtain ⟨x0, F', x1, x2⟩ := HR.out.end'
      exact ⟨x0, F', x1, HK.out.trans x2⟩
end Go.Proofs.YtodedbokeodmkaaGreat
namespace Go.Proofs.YtodedbokeodmkaaGreat
open Go.RowKit
set_option linter.unusedVariables false
set_option maxRecDepth 100000

/-! ### Addresses -/
theorem adr1 (six : Bool) {g : Nat} {d : MD} {tv : Value} {w : World} (h : Lies w g 30 (cellsD d tv)) : Calls Tryz.prog 169 #[pp g] w (Dropped w g (dropK [.adr six] d) d.L tv) := by
  have c0 := h.cell 0
  have c1 := h.cell 1
  have c2 := h.cell 2
  have f0 := h.free 0
  have f1 := h.free 1
  have f2 := h.free 2
  have HR : Hid (Lies (((w.setCell ⟨g, 0, none⟩ (.bool false)).setCell ⟨g, 1, none⟩ (.int .u64 0)).setCell ⟨g, 2, none⟩ (.int .u64 0)) g 30 (cellsD (dropK [.adr six] d) tv)) := Lib.hid (((h.set 0 _).set 1 _).set 2 _)
  have HG := Lib.hid (grown_next (grown_next (grown_one w g 0 (.bool false)) (grown_one _ g 1 (.int .u64 0))) (grown_one _ g 2 (.int .u64 0)))
  clear h
  go_enter Tryz.func169, Tryz.ntmps169
  go_wp2
  refine bodyPost_ret (v := .tuple #[]) (by simp [results, Tryz.results169, go_sem]) rfl ?_
  exact ⟨⟨_, rfl⟩, HG.out, tv, HR.out, .inl ⟨rfl, rfl⟩⟩
theorem adr2 (six : Bool) (b : Nat) (d : MD) (tv : Value) (w : World) (h : Fit w d tv) (hb : w.cell? ⟨b, 0, none⟩ = some (.bool six)) (hlt : b < w.heap.size) :
    Calls Tryz.prog 170 #[dataV d tv, .pointer (some ⟨b, 0, none⟩)] w (Told w (.int .i64 (chkK [.adr six] d : Nat))) := by
  rw [chk_one]
  have hb0 := boxD w d tv
  have HB := Lib.hid hb0
  have hc0 := (hb0.cell (p := ⟨b, 0, none⟩) hlt).trans hb
  have HC := Lib.hid (fun wx => aCheck_any d.six d.hi d.lo wx h.hi h.lo)
  clear h hb hb0
  by_cases hs : d.six = six
  · have HV : Hid (chkP (.adr six) d = chkA (d.six, d.hi, d.lo)) := Lib.hid (if_neg (fun h => h hs))
    have hne : (d.six == six) = true := by rw [hs]; simp
    clear hs
    unfold dataV cellsD
    go_enter Tryz.func170, Tryz.ntmps170
    go_wp2_with (go_at_call 171; (with_reducible refine (HC.out _).mono ?_); rintro e w1 ⟨rfl, hb1⟩; have HB1 := Lib.hid hb1; clear hb1)
    go_ret
    rw [HV.out]
    exact ⟨rfl, HB.out.trans (HB1.out.mono HB.out.size)⟩
  · have HV : Hid (chkP (.adr six) d = 2) := Lib.hid (if_pos hs)
    have hne : (d.six == six) = false := by rw [beq_eq_false_iff_ne]; exact hs
    clear hs
    unfold dataV cellsD
    go_enter Tryz.func170, Tryz.ntmps170
    go_wp2
    go_ret
    rw [HV.out]
    exact ⟨rfl, HB.out⟩
theorem adr3 (six : Bool) (b : Nat) (d : MD) (tv : Value) (w : World) (n : Int) (hn : ((sizeK [.adr six] d : Nat) : Int) = n) (hb : w.cell? ⟨b, 0, none⟩ = some (.int .i64 n)) (hlt : b < w.heap.size) :
    Calls Tryz.prog 172 #[dataV d tv, .pointer (some ⟨b, 0, none⟩)] w (Told w (.int .i64 (sizeK [.adr six] d : Nat))) := by
  rw [hn]
  have hb0 := boxD w d tv
  have HB := Lib.hid hb0
  have hc0 := (hb0.cell (p := ⟨b, 0, none⟩) hlt).trans hb
  clear hb hb0 hn
  unfold dataV cellsD
  go_enter Tryz.func172, Tryz.ntmps172
  go_wp2
  go_ret
  exact ⟨rfl, HB.out⟩
theorem octA_len (a : Ad) : (octA a).length ≤ 16 := by
  unfold octA allO
  split
  · simp [octs_length]
  · simp [octs_length]
theorem adr4 (six : Bool) {base g M : Nat} {F : Nat → Prop} {s : PS} (d : MD) (tv : Value) (w : World) (h : PK w base F g M s) (hf : Fit w d tv) (hc : chkK [.adr six] d = 0) :
    Calls Tryz.prog 173 #[pp g, dataV d tv] w (Pkr w base F g M (putK M [.adr six] d s).2 (.int .i64 ((putK M [.adr six] d s).1 : Nat))) := by
  rw [put_one, show putP M (.adr six) d s = putS M s (octA d.ad) from rfl]
  rw [chk_one] at hc
  have hc : (if d.six ≠ six then 2 else chkA d.ad) = 0 := hc
  have hca : chkA (d.six, d.hi, d.lo) = 0 := by
    split at hc
    · cases hc
    · exact hc
  have hb0 := boxD w d tv
  have HK := Lib.hid (Kf.of_below (base := base) (F := F) hb0 h.base_le)
  have HP := Lib.hid (h.next hb0)
  have HC := Lib.hid fun wx (hx : PK wx base F g M s) => pPut_any hx ⟨(octA d.ad).toArray⟩ (by rw [tosize]; have := octA_len d.ad; omega)
  have HO := Lib.hid fun wx => Octets_any d.six d.hi d.lo wx hf.hi hf.lo
  rw [ocA_ok hca] at HO
  rw [bs_mk] at HC
  obtain ⟨q, hq⟩ : ∃ q, putS M s (octA d.ad) = q := ⟨_, rfl⟩
  rw [hq] at HC ⊢
  have HQ : Hid (∀ w1, Below (w.alloc (.cells (cellsD d tv) 30)).heap.size (w.alloc (.cells (cellsD d tv) 30)) w1 → PK w1 base F g M s ∧ Kf base F F w w1) := Lib.hid fun w1 hb1 => ⟨HP.out.next hb1, HK.out.trans (Kf.of_below hb1 HP.out.base_le)⟩
  clear hq hc hca h hb0 hf HP HK
  unfold dataV cellsD
  unfold MD.ad at HC
  go_enter Tryz.func173, Tryz.ntmps173
  go_wp2_with (first | (go_at_call 174; (with_reducible refine (HO.out _).mono ?_); rintro e w1 ⟨rfl, hb1⟩; have HX := Lib.hid (HQ.out _ hb1); clear hb1) | (go_at_call 92; (with_reducible refine (HC.out _ HX.out.1).mono ?_); rintro e w2 ⟨rfl, F2, h1, h2⟩; have H1 := Lib.hid h1; have H2 := Lib.hid h2; clear h1 h2))
  go_ret
  exact ⟨rfl, F2, H1.out, HX.out.2.trans H2.out⟩

/-! ### Names -/
abbrev ofV (mail : Bool) : Value := .func (.func (if mail then 134 else 130)) #[] #[]
theorem targetOf_any (g : Nat) (w : World) : Calls Tryz.prog 130 #[pp g] w fun e w' => e = .returned (.pointer (some ⟨g, 3, none⟩)) ∧ w = w' := by
  go_enter Tryz.func130, Tryz.ntmps130
  go_wp2
  go_ret
  exact ⟨rfl, rfl⟩
theorem mailOf_any (g : Nat) (w : World) : Calls Tryz.prog 134 #[pp g] w fun e w' => e = .returned (.pointer (some ⟨g, 4, none⟩)) ∧ w = w' := by
  go_enter Tryz.func134, Tryz.ntmps134
  go_wp2
  go_ret
  exact ⟨rfl, rfl⟩
theorem nam1 (mail ptd : Bool) {g b : Nat} {d : MD} {tv : Value} {w : World} (h : Lies w g 30 (cellsD d tv)) (hb : w.cell? ⟨b, 0, none⟩ = some (ofV mail)) :
    Calls Tryz.prog 163 #[pp g, .pointer (some ⟨b, 0, none⟩)] w (Dropped w g (dropK [.nam mail ptd] d) d.L tv) := by
  cases mail
  · have hc := h.cell 3
    have hf := h.free 3
    have HR : Hid (Lies (w.setCell ⟨g, 3, none⟩ (.string ⟨#[]⟩)) g 30 (cellsD (dropK [.nam false ptd] d) tv)) := Lib.hid (h.set 3 _)
    have HG := Lib.hid (grown_one w g 3 (.string ⟨#[]⟩))
    clear h
    simp only [ofV, Bool.false_eq_true, if_false] at hb
    go_enter Tryz.func163, Tryz.ntmps163
    go_wp2_with (go_at_call 130; (with_reducible refine (targetOf_any _ _).mono ?_); rintro e w1 ⟨rfl, rfl⟩)
    refine bodyPost_ret (v := .tuple #[]) (by simp [results, Tryz.results163, go_sem]) rfl ?_
    exact ⟨⟨_, rfl⟩, HG.out, tv, HR.out, .inl ⟨rfl, rfl⟩⟩
  · have hc := h.cell 4
    have hf := h.free 4
    have HR : Hid (Lies (w.setCell ⟨g, 4, none⟩ (.string ⟨#[]⟩)) g 30 (cellsD (dropK [.nam true ptd] d) tv)) := Lib.hid (h.set 4 _)
    have HG := Lib.hid (grown_one w g 4 (.string ⟨#[]⟩))
    clear h
    simp only [ofV, if_true] at hb
    go_enter Tryz.func163, Tryz.ntmps163
    go_wp2_with (go_at_call 134; (with_reducible refine (mailOf_any _ _).mono ?_); rintro e w1 ⟨rfl, rfl⟩)
    refine bodyPost_ret (v := .tuple #[]) (by simp [results, Tryz.results163, go_sem]) rfl ?_
    exact ⟨⟨_, rfl⟩, HG.out, tv, HR.out, .inl ⟨rfl, rfl⟩⟩
theorem nam2 (mail ptd : Bool) (b : Nat) (d : MD) (tv : Value) (w : World) (h : Fit w d tv) (hb : w.cell? ⟨b, 0, none⟩ = some (ofV mail)) (hlt : b < w.heap.size) :
    Calls Tryz.prog 164 #[dataV d tv, .pointer (some ⟨b, 0, none⟩)] w (Told w (.int .i64 (chkK [.nam mail ptd] d : Nat))) := by
  rw [chk_one]
  have hb0 := boxD w d tv
  have HB := Lib.hid hb0
  have hc0 := (hb0.cell (p := ⟨b, 0, none⟩) hlt).trans hb
  clear hb hb0
  cases mail
  · have HC := Lib.hid (fun wx => nCheck_any d.n wx h.n)
    clear h
    simp only [ofV, Bool.false_eq_true, if_false] at hc0
    rw [show chkP (.nam false ptd) d = chkN (bs d.n) from rfl]
    unfold dataV cellsD
    go_enter Tryz.func164, Tryz.ntmps164
    go_wp2_with (first | (go_at_call 130; (with_reducible refine (targetOf_any _ _).mono ?_); rintro e w1 ⟨rfl, rfl⟩) | (go_at_call 81; (with_reducible refine (HC.out _).mono ?_); rintro e w1 ⟨rfl, hb1⟩; have HB1 := Lib.hid hb1; clear hb1))
    go_ret
    exact ⟨rfl, HB.out.trans (HB1.out.mono HB.out.size)⟩
  · have HC := Lib.hid (fun wx => nCheck_any d.m wx h.m)
    clear h
    simp only [ofV, if_true] at hc0
    rw [show chkP (.nam true ptd) d = chkN (bs d.m) from rfl]
    unfold dataV cellsD
    go_enter Tryz.func164, Tryz.ntmps164
    go_wp2_with (first | (go_at_call 134; (with_reducible refine (mailOf_any _ _).mono ?_); rintro e w1 ⟨rfl, rfl⟩) | (go_at_call 81; (with_reducible refine (HC.out _).mono ?_); rintro e w1 ⟨rfl, hb1⟩; have HB1 := Lib.hid hb1; clear hb1))
    go_ret
    exact ⟨rfl, HB.out.trans (HB1.out.mono HB.out.size)⟩
theorem nam3 (mail ptd : Bool) (b : Nat) (d : MD) (tv : Value) (w : World) (h : Fit w d tv) (hb : w.cell? ⟨b, 0, none⟩ = some (ofV mail)) (hlt : b < w.heap.size) :
    Calls Tryz.prog 165 #[dataV d tv, .pointer (some ⟨b, 0, none⟩)] w (Told w (.int .i64 (sizeK [.nam mail ptd] d : Nat))) := by
  rw [size_one]
  have hb0 := boxD w d tv
  have HB := Lib.hid hb0
  have hc0 := (hb0.cell (p := ⟨b, 0, none⟩) hlt).trans hb
  clear hb hb0
  cases mail
  · have HC := Lib.hid (fun wx => pSize_any d.n wx h.n)
    clear h
    simp only [ofV, Bool.false_eq_true, if_false] at hc0
    rw [show sizeP (.nam false ptd) d = sizeN (bs d.n) from rfl]
    unfold dataV cellsD
    go_enter Tryz.func165, Tryz.ntmps165
    go_wp2_with (first | (go_at_call 130; (with_reducible refine (targetOf_any _ _).mono ?_); rintro e w1 ⟨rfl, rfl⟩) | (go_at_call 69; (with_reducible refine (HC.out _).mono ?_); rintro e w1 ⟨rfl, hb1⟩; have HB1 := Lib.hid hb1; clear hb1))
    go_ret
    exact ⟨rfl, HB.out.trans (HB1.out.mono HB.out.size)⟩
  · have HC := Lib.hid (fun wx => pSize_any d.m wx h.m)
    clear h
    simp only [ofV, if_true] at hc0
    rw [show sizeP (.nam true ptd) d = sizeN (bs d.m) from rfl]
    unfold dataV cellsD
    go_enter Tryz.func165, Tryz.ntmps165
    go_wp2_with (first | (go_at_call 134; (with_reducible refine (mailOf_any _ _).mono ?_); rintro e w1 ⟨rfl, rfl⟩) | (go_at_call 69; (with_reducible refine (HC.out _).mono ?_); rintro e w1 ⟨rfl, hb1⟩; have HB1 := Lib.hid hb1; clear hb1))
    go_ret
    exact ⟨rfl, HB.out.trans (HB1.out.mono HB.out.size)⟩

/-! ### Numbers -/
abbrev numP (a b c d e : Int) : Pt := .num a.toNat b.toNat c.toNat d.toNat e.toNat
def Wd5 (a b c d e : Int) : Prop := Wd a ∧ Wd b ∧ Wd c ∧ Wd d ∧ Wd e
/-- The box of widths. -/
def WB (w : World) (b : Nat) (a c d e f : Int) : Prop := Lies w b 212 #[.int .i64 a, .int .i64 c, .int .i64 d, .int .i64 e, .int .i64 f]
theorem nbr1 (p : Pt) (hp : ∃ a b c d e, p = .num a b c d e) {g : Nat} {d : MD} {tv : Value} {w : World} (h : Lies w g 30 (cellsD d tv)) : Calls Tryz.prog 186 #[pp g] w (Dropped w g (dropK [p] d) d.L tv) := by
  obtain ⟨a, b, c, e, f, rfl⟩ := hp
  have c5 := h.cell 5
  have c6 := h.cell 6
  have c7 := h.cell 7
  have c8 := h.cell 8
  have c9 := h.cell 9
  have f5 := h.free 5
  have f6 := h.free 6
  have f7 := h.free 7
  have f8 := h.free 8
  have f9 := h.free 9
  have HR : Hid (Lies (((((w.setCell ⟨g, 5, none⟩ (.int .u32 0)).setCell ⟨g, 6, none⟩ (.int .u32 0)).setCell ⟨g, 7, none⟩ (.int .u32 0)).setCell ⟨g, 8, none⟩ (.int .u32 0)).setCell ⟨g, 9, none⟩ (.int .u32 0)) g 30 (cellsD (dropK [.num a b c e f] d) tv)) := Lib.hid (((((h.set 5 _).set 6 _).set 7 _).set 8 _).set 9 _)
  have HG := Lib.hid (grown_next (grown_next (grown_next (grown_next (grown_one w g 5 (.int .u32 0)) (grown_one _ g 6 (.int .u32 0))) (grown_one _ g 7 (.int .u32 0))) (grown_one _ g 8 (.int .u32 0))) (grown_one _ g 9 (.int .u32 0)))
  clear h
  go_enter Tryz.func186, Tryz.ntmps186
  go_wp2
  refine bodyPost_ret (v := .tuple #[]) (by simp [results, Tryz.results186, go_sem]) rfl ?_
  exact ⟨⟨_, rfl⟩, HG.out, tv, HR.out, .inl ⟨rfl, rfl⟩⟩
theorem nbr2 {a b c d' e : Int} (hw : Wd5 a b c d' e) (bx : Nat) (d : MD) (tv : Value) (w : World) (h : Fit w d tv) (hb : WB w bx a b c d' e) :
    Calls Tryz.prog 187 #[dataV d tv, .pointer (some ⟨bx, 0, none⟩)] w (Told w (.int .i64 (chkK [numP a b c d' e] d : Nat))) := by
  rw [chk_one]
  have hb0 := boxD w d tv
  have HB := Lib.hid hb0
  have hb1 := hb.next hb0
  have c0 := hb1.cell 0
  have c1 := hb1.cell 1
  have c2 := hb1.cell 2
  have c3 := hb1.cell 3
  have c4 := hb1.cell 4
  obtain ⟨wa, wb, wc, wd, we⟩ := hw
  have HC := Lib.hid (fun wx => wCheck_any d.v0 d.v1 d.v2 d.v3 d.v4 a b c d' e wx wa wb wc wd we h.v0 h.v1 h.v2 h.v3 h.v4)
  obtain ⟨q, hq⟩ : ∃ q, chkW [d.v0, d.v1, d.v2, d.v3, d.v4] (wsL a b c d' e) = q := ⟨_, rfl⟩
  rw [show chkP (numP a b c d' e) d = chkW [d.v0, d.v1, d.v2, d.v3, d.v4] (wsL a b c d' e) from rfl, hq]
  rw [hq] at HC
  clear h hb hb0 hb1 hq wa wb wc wd we
  unfold dataV cellsD
  go_enter Tryz.func187, Tryz.ntmps187
  go_wp2_with (go_at_call 188; (with_reducible refine (HC.out _).mono ?_); rintro e w1 ⟨rfl, hb1⟩; have HB1 := Lib.hid hb1; clear hb1)
  go_ret
  exact ⟨rfl, HB.out.trans (HB1.out.mono HB.out.size)⟩
theorem nbr3 {a b c d' e : Int} (hw : Wd5 a b c d' e) (bx : Nat) (d : MD) (tv : Value) (w : World) (hb : WB w bx a b c d' e) :
    Calls Tryz.prog 189 #[dataV d tv, .pointer (some ⟨bx, 0, none⟩)] w (Told w (.int .i64 (sizeK [numP a b c d' e] d : Nat))) := by
  rw [size_one]
  have hb0 := boxD w d tv
  have HB := Lib.hid hb0
  have hb1 := hb.next hb0
  have c0 := hb1.cell 0
  have c1 := hb1.cell 1
  have c2 := hb1.cell 2
  have c3 := hb1.cell 3
  have c4 := hb1.cell 4
  obtain ⟨wa, wb, wc, wd, we⟩ := hw
  have HC := Lib.hid (fun wx => wSum_any a b c d' e wx wa wb wc wd we)
  obtain ⟨q, hq⟩ : ∃ q, (wsL a b c d' e).sum = q := ⟨_, rfl⟩
  rw [show sizeP (numP a b c d' e) d = q by rw [← hq]; simp [sizeP, wsL]; omega]
  rw [hq] at HC
  clear hb hb0 hb1 hq wa wb wc wd we
  unfold dataV cellsD
  go_enter Tryz.func189, Tryz.ntmps189
  go_wp2_with (go_at_call 190; (with_reducible refine (HC.out _).mono ?_); rintro e w1 ⟨rfl, hb1⟩; have HB1 := Lib.hid hb1; clear hb1)
  go_ret
  exact ⟨rfl, HB.out.trans (HB1.out.mono HB.out.size)⟩
theorem nbr4 {a b c d' e : Int} (hw : Wd5 a b c d' e) {base g M : Nat} {F : Nat → Prop} {s : PS} (bx : Nat) (d : MD) (tv : Value) (w : World) (h : PK w base F g M s) (hf : Fit w d tv) (hb : WB w bx a b c d' e) :
    Calls Tryz.prog 191 #[pp g, dataV d tv, .pointer (some ⟨bx, 0, none⟩)] w (Pkr w base F g M (putK M [numP a b c d' e] d s).2 (.int .i64 ((putK M [numP a b c d' e] d s).1 : Nat))) := by
  rw [put_one]
  have hb0 := boxD w d tv
  have HK := Lib.hid (Kf.of_below (base := base) (F := F) hb0 h.base_le)
  have hb1 := hb.next hb0
  have c0 := hb1.cell 0
  have c1 := hb1.cell 1
  have c2 := hb1.cell 2
  have c3 := hb1.cell 3
  have c4 := hb1.cell 4
  obtain ⟨wa, wb, wc, wd, we⟩ := hw
  have HC := Lib.hid (wPut2_any d.v0 d.v1 d.v2 d.v3 d.v4 a b c d' e _ wa wb wc wd we hf.v0 hf.v1 hf.v2 hf.v3 hf.v4 (h.next hb0))
  obtain ⟨q, hq⟩ : ∃ q, numsS M [d.v0, d.v1, d.v2, d.v3, d.v4] (wsL a b c d' e) s = q := ⟨_, rfl⟩
  rw [show putP M (numP a b c d' e) d s = numsS M [d.v0, d.v1, d.v2, d.v3, d.v4] (wsL a b c d' e) s from rfl, hq]
  rw [hq] at HC
  clear hb hb0 hb1 hq wa wb wc wd we h hf
  unfold dataV cellsD
  go_enter Tryz.func191, Tryz.ntmps191
  go_wp2_with (go_at_call 192; (with_reducible refine HC.out.mono ?_); rintro e w1 ⟨rfl, F1, h1, h2⟩; have H1 := Lib.hid h1; have H2 := Lib.hid h2; clear h1 h2)
  go_ret
  exact ⟨rfl, F1, H1.out, HK.out.trans H2.out⟩
end Go.Proofs.YtodedbokeodmkaaGreat
