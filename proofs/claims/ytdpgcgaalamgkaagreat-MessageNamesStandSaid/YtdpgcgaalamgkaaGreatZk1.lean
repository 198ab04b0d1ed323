/-
  Plain facts on labels' texts: what a text's octets tell, that what was told is read, that comparing folded octets is an order. No condition. Nothing of any program is named here. Plain facts on names: labels put one behind the other and cut again, texts of names read back, canonical order, who is under whom. No condition. Nothing of any program is named here. What a packer of names answers, call by call: plain mathematics. No condition beyond those that each theorem names. Addresses as plain data: their octets, groups, texts, reverse names, and what is read of a text: the mathematics that the contracts of layer 4 name. No condition. Nothing of any program is named here. What reading a name where it stands, pointers followed, answers, part by part: plain mathematics. No condition beyond those that each theorem names. A label looked at: the walk of label.Check. Condition: the label is no longer than Go's own limit. What label.Fold, Compare, Same answer: the walks. Condition: the string is no longer than Go's own limit. What name.cut, put, named answer: the walks. Condition: the string is no longer than Go's own limit. The labels of a name, one by one: the iterator each, as loops over it meet it. Condition: the name is no longer than Go's own limit. What name.Check answers: the walk. Condition: the name is no longer than Go's own limit. What a name that is read comes to: bounds, what is passed over, what is read without pointers: plain mathematics. No condition beyond those that each theorem names. A step of reading a name where it stands, by its first octet: plain mathematics. Conditions as stated.
-/
import Derived.Lib.Bytealg
import Derived.Test.YtdpgcgaalamgkaaGreatZk0
import Derived.Lib.Split
import Derived.Lib.CutLaws
import Derived.Lib.LastIndexLaws
import Derived.Lib.Join
import Derived.Lib.Itoa
import Derived.Lib.ItoaNum
import Derived.Lib.ParseIntB
import Derived.Handy
import Derived.Lib.Walk
import Derived.Lib.Slices
import Derived.Deep.QuietTactic
import Derived.BigQuiet
import Derived.IntWalk
import Derived.Shelf.Abstract
import Derived.TacticsInMore
import Derived.LoopNIn
import Derived.LoopIn
namespace Go.Proofs.YtdpgcgaalamgkaaGreat

/-! ### Octets and texts -/
def dg (c : UInt8) : Bool := decide (48 ≤ c.toNat ∧ c.toNat ≤ 57)
def vis (c : UInt8) : Bool := decide (33 ≤ c.toNat ∧ c.toNat ≤ 126)
def num3 (d e f : UInt8) : Nat := 100 * (d.toNat - 48) + 10 * (e.toNat - 48) + (f.toNat - 48)

/-- The octet that three digits at the head tell. -/
def dig3 : List UInt8 → Option UInt8
  | d :: e :: f :: _ => if dg d = true ∧ dg e = true ∧ dg f = true ∧ num3 d e f ≤ 255 then some (UInt8.ofNat (num3 d e f)) else none
  | _ => none

/-- What stands behind an escape. -/
def esct : List UInt8 → Option (UInt8 × Nat)
  | [] => none
  | d :: r => if dg d = true then (dig3 (d :: r)).map (fun c => (c, 4)) else some (d, 2)

/-- The octet that the head of a text tells, and how many octets tell it. -/
def oct : List UInt8 → Option (UInt8 × Nat)
  | [] => none
  | c :: r => if c.toNat = 92 then esct r else if vis c = true then some (c, 1) else none

/-- What Check answers. -/
def chk (l : List UInt8) : Nat := if l.length = 0 then 2 else if 63 < l.length then 3 else 0

def fin (out : List UInt8) (at_ : Nat) : List UInt8 × Nat × Nat := if out.length = 0 then ([], 0, 2) else (out, at_, 0)

/-- What Read answers, from a place on, 'out' read so far: at most so many octets more. -/
def rdF : Nat → List UInt8 → List UInt8 → Nat → List UInt8 × Nat × Nat
  | _, [], out, k => fin out k
  | 0, c :: r, out, k => if c.toNat = 46 then fin out k else match oct (c :: r) with
      | none => ([], 0, 7)
      | some _ => ([], 0, 3)
  | f + 1, c :: r, out, k => if c.toNat = 46 then fin out k else match oct (c :: r) with
      | none => ([], 0, 7)
      | some (o, n) => rdF f ((c :: r).drop n) (out ++ [o]) (k + n)

/-- What Read answers of a text from its place k on. -/
def rd (s : List UInt8) (k : Nat) : List UInt8 × Nat × Nat := rdF 63 (s.drop k) [] k

/-! ### How many octets tell one -/
/-! ### What was told is read -/
/-! ### Folding and the order -/
def fd (c : UInt8) : UInt8 := if 65 ≤ c.toNat ∧ c.toNat ≤ 90 then c + 32 else c
def fold (l : List UInt8) : List UInt8 := l.map fd
end Go.Proofs.YtdpgcgaalamgkaaGreat
namespace Go.Proofs.YtdpgcgaalamgkaaGreat

/-! ### Labels, one behind the other -/
def cutL : List UInt8 → Option (List UInt8 × List UInt8)
  | [] => none
  | c :: r => if 1 ≤ c.toNat ∧ c.toNat ≤ 63 ∧ c.toNat ≤ r.length then some (r.take c.toNat, r.drop c.toNat) else none
def labsF : Nat → List UInt8 → List (List UInt8)
  | 0, _ => []
  | f + 1, l => match cutL l with
    | none => []
    | some x => x.1 :: labsF f x.2
/-- The labels that octets begin with. -/
def labs (l : List UInt8) : List (List UInt8) := labsF l.length l
def enc1 (x : List UInt8) : List UInt8 := UInt8.ofNat x.length :: x
def enc (L : List (List UInt8)) : List UInt8 := L.flatMap enc1
def ok1 (x : List UInt8) : Prop := 1 ≤ x.length ∧ x.length ≤ 63
def okN (L : List (List UInt8)) : Prop := ∀ x ∈ L, ok1 x

theorem ok1_chk {x : List UInt8} : ok1 x ↔ chk x = 0 := by
  unfold ok1 chk
  constructor
  · intro h
    rw [if_neg (by omega), if_neg (by omega)]
  · intro h
    split at h
    · cases h
    · split at h
      · cases h
      · omega
theorem okN_cons {x : List UInt8} {L : List (List UInt8)} : okN (x :: L) ↔ ok1 x ∧ okN L :=
  ⟨fun h => ⟨h x (List.mem_cons_self ..), fun y hy => h y (List.mem_cons_of_mem _ hy)⟩, fun h y hy => by
    rcases List.mem_cons.1 hy with rfl | hy
    · exact h.1
    · exact h.2 y hy⟩
theorem enc1_length (x : List UInt8) : (enc1 x).length = x.length + 1 := rfl
theorem enc_cons (x : List UInt8) (L : List (List UInt8)) : enc (x :: L) = enc1 x ++ enc L := rfl
theorem enc_append (A C : List (List UInt8)) : enc (A ++ C) = enc A ++ enc C := by simp [enc]
theorem enc_one (x : List UInt8) : enc [x] = enc1 x := by simp [enc]
theorem cutL_cons (c : UInt8) (r : List UInt8) : cutL (c :: r) = if 1 ≤ c.toNat ∧ c.toNat ≤ 63 ∧ c.toNat ≤ r.length then some (r.take c.toNat, r.drop c.toNat) else none := rfl
theorem labsF_succ (f : Nat) (l : List UInt8) : labsF (f + 1) l = match cutL l with | none => [] | some x => x.1 :: labsF f x.2 := rfl
theorem cutL_some {l x r : List UInt8} (h : cutL l = some (x, r)) : l = enc1 x ++ r ∧ ok1 x := by
  rcases l with _ | ⟨c, t⟩
  · cases h
  · rw [cutL_cons] at h
    split at h
    · rename_i hc
      simp only [Option.some.injEq, Prod.mk.injEq] at h
      obtain ⟨rfl, rfl⟩ := h
      have hl : (t.take c.toNat).length = c.toNat := by rw [List.length_take]; omega
      refine ⟨?_, by unfold ok1; omega⟩
      unfold enc1
      rw [hl, List.cons_append, List.take_append_drop]
      simp
    · cases h
theorem cutL_len {l x r : List UInt8} (h : cutL l = some (x, r)) : r.length < l.length ∧ l.length = x.length + 1 + r.length := by
  obtain ⟨rfl, _⟩ := cutL_some h
  rw [List.length_append, enc1_length]
  omega
theorem labsF_more : ∀ (f g : Nat) (l : List UInt8), l.length ≤ f → l.length ≤ g → labsF f l = labsF g l
  | 0, 0, _, _, _ => rfl
  | 0, g + 1, l, h, _ => by
    obtain rfl : l = [] := List.eq_nil_of_length_eq_zero (by omega)
    rfl
  | f + 1, 0, l, _, h => by
    obtain rfl : l = [] := List.eq_nil_of_length_eq_zero (by omega)
    rfl
  | f + 1, g + 1, l, hf, hg => by
    rw [labsF_succ, labsF_succ]
    rcases h : cutL l with _ | ⟨x, r⟩
    · rfl
    · have := cutL_len h
      simp only
      rw [labsF_more f g r (by omega) (by omega)]
theorem labs_none {l : List UInt8} (h : cutL l = none) : labs l = [] := by
  unfold labs
  rcases hl : l.length with _ | n
  · rfl
  · rw [labsF_succ, h]
theorem labs_some {l x r : List UInt8} (h : cutL l = some (x, r)) : labs l = x :: labs r := by
  have hn := cutL_len h
  unfold labs
  rcases hl : l.length with _ | n
  · omega
  · rw [labsF_succ, h]
    simp only
    rw [labsF_more n r.length r (by omega) (Nat.le_refl _)]
theorem labs_pre (n : Nat) : ∀ (l : List UInt8), l.length ≤ n → okN (labs l) ∧ ∃ r, l = enc (labs l) ++ r ∧ cutL r = none := by
  induction n with
  | zero =>
    intro l hn
    obtain rfl : l = [] := List.eq_nil_of_length_eq_zero (by omega)
    exact ⟨okN_nil, [], rfl, rfl⟩
  | succ n ih =>
    intro l hn
    rcases h : cutL l with _ | ⟨x, r⟩
    · rw [labs_none h]
      exact ⟨okN_nil, l, by simp [enc], h⟩
    · obtain ⟨e, hx⟩ := cutL_some h
      have hl := cutL_len h
      obtain ⟨i1, r', i2, i3⟩ := ih r (by omega)
      rw [labs_some h]
      refine ⟨okN_cons.2 ⟨hx, i1⟩, r', ?_, i3⟩
      rw [enc_cons, List.append_assoc, ← i2]
      exact e
theorem labs_ok (l : List UInt8) : okN (labs l) := (labs_pre _ l (Nat.le_refl _)).1

/-- What Check answers. -/
def chkN (l : List UInt8) : Nat := if 254 < l.length then 3 else if (enc (labs l)).length = l.length then 0 else 4
theorem chkN_long {l : List UInt8} (h : 254 < l.length) : chkN l = 3 := if_pos h
theorem chkN_iff {l : List UInt8} : chkN l = 0 ↔ l.length ≤ 254 ∧ enc (labs l) = l := by
  unfold chkN
  constructor
  · intro h
    split at h
    · cases h
    · split at h
      · rename_i h1 h2
        obtain ⟨_, r, hr, _⟩ := labs_pre _ l (Nat.le_refl _)
        have : r = [] := by
          have e := congrArg List.length hr
          rw [List.length_append] at e
          exact List.eq_nil_of_length_eq_zero (by omega)
        subst this
        rw [List.append_nil] at hr
        exact ⟨by omega, hr.symm⟩
      · cases h
  · rintro ⟨h1, h2⟩
    rw [if_neg (by omega), h2, if_pos rfl]
theorem enc_two : ∀ {L : List (List UInt8)}, okN L → 2 * L.length ≤ (enc L).length
  | [], _ => by simp
  | x :: L, h => by
    have h' := okN_cons.1 h
    have := enc_two h'.2
    have := h'.1.1
    rw [enc_cons, List.length_append, enc1_length, List.length_cons]
    omega
/-- What Labels answers. -/
def nlabs (l : List UInt8) : List (List UInt8) := if chkN l = 0 then labs l else []
/-! ### A name of labels -/
def named (o : List UInt8) : List UInt8 × Nat := if 254 < o.length then ([], 3) else (o, 0)
/-- The first error of labels. -/
def badL : List (List UInt8) → Nat
  | [] => 0
  | x :: L => if chk x = 0 then badL L else chk x
def mkN (L : List (List UInt8)) : List UInt8 × Nat := if badL L = 0 then named (enc L) else ([], badL L)

/-! ### Texts -/
/-! ### Folding -/
/-! ### Canonical order -/
/-- A name's folded labels from the root's side on. -/
def rows (l : List UInt8) : List (List UInt8) := ((nlabs l).map fold).reverse
/-! ### Parents, joins, wildcards -/
end Go.Proofs.YtdpgcgaalamgkaaGreat
namespace Go.Proofs.YtdpgcgaalamgkaaGreat
open Go.RowKit
set_option linter.unusedVariables false

/-- What a packer has: its octets, its error, where each rest stands, the lengths that were begun. -/
structure PS where
  l : List UInt8
  f : Nat
  m : List UInt8 → Option Nat
  o : List Nat
def ps0 : PS := ⟨[], 0, fun _ => none, []⟩
def upd (m : List UInt8 → Option Nat) (k : List UInt8) (a : Nat) : List UInt8 → Option Nat := fun x => if x = k then some a else m x
def putS (M : Nat) (s : PS) (x : List UInt8) : Nat × PS := ((putW M s.l s.f x).e, { s with l := (putW M s.l s.f x).l, f := (putW M s.l s.f x).f })
def numS (M : Nat) (s : PS) (v : Nat) (n : Int) : Nat × PS := ((numW M s.l s.f v n).e, { s with l := (numW M s.l s.f v n).l, f := (numW M s.l s.f v n).f })
def headN (r : List UInt8) : List UInt8 := r.take (1 + (r.headD 0).toNat)
def restN (r : List UInt8) : List UInt8 := r.drop (1 + (r.headD 0).toNat)
def keepS (s : PS) (r : List UInt8) (a : Nat) : PS := if a < 16384 then { s with m := upd s.m r a } else s
def nameF (M : Nat) : Nat → List UInt8 → PS → Nat × PS
  | 0, _, s => (0, s)
  | k + 1, r, s => if r = [] then putS M s [0] else match s.m r with
    | some a => numS M s (49152 + a) 2
    | none => if (putS M s (headN r)).1 = 0 then nameF M k (restN r) (keepS (putS M s (headN r)).2 r s.l.length) else putS M s (headN r)
def nameS (M : Nat) (s : PS) (n : List UInt8) : Nat × PS := if s.f ≠ 0 then (s.f, s) else if chkN n ≠ 0 then (chkN n, s) else nameF M (n.length + 1) n s
def plainF (M : Nat) : Nat → List UInt8 → PS → Nat × PS
  | 0, _, s => (0, s)
  | k + 1, r, s => if r = [] then putS M s [0] else if (putS M s (headN r)).1 = 0 then plainF M k (restN r) (putS M s (headN r)).2 else putS M s (headN r)
def plainS (M : Nat) (s : PS) (n : List UInt8) : Nat × PS := if s.f ≠ 0 then (s.f, s) else if chkN n ≠ 0 then (chkN n, s) else plainF M (n.length + 1) n s
def beginS (M : Nat) (s : PS) : Nat × Nat × PS := if (numS M s 0 2).1 = 0 then (s.l.length, 0, { (numS M s 0 2).2 with o := s.o ++ [s.l.length] }) else (0, (numS M s 0 2).1, (numS M s 0 2).2)
def endS (s : PS) (a : Int) : Nat × PS :=
  if s.f ≠ 0 then (s.f, s) else match s.o.getLast? with
    | none => (9, s)
    | some b => if (b : Int) = a then (0, { s with l := over s.l b (octs (s.l.length - b - 2) 2), o := s.o.dropLast }) else (9, s)
def sizeN (n : List UInt8) : Nat := if chkN n = 0 then n.length + 1 else 0

/-- What always holds of a packer. -/
structure Inv (M : Nat) (s : PS) : Prop where
  le : s.l.length ≤ M
  most : M ≤ 65535
  mark : ∀ k a, s.m k = some a → a < 16384
  begun : ∀ a ∈ s.o, a + 2 ≤ s.l.length
  olen : s.o.length ≤ s.l.length
theorem inv0 {M : Nat} (h : M ≤ 65535) : Inv M ps0 := ⟨Nat.zero_le _, h, (fun _ _ h => nomatch h), (fun _ h => nomatch h), Nat.zero_le _⟩
theorem putW_grow (M : Nat) (l : List UInt8) (f : Nat) (s : List UInt8) : l.length ≤ (putW M l f s).l.length := by
  unfold putW
  split
  · exact Nat.le_refl _
  · split
    · exact Nat.le_refl _
    · rw [List.length_append]; exact Nat.le_add_right _ _
theorem numW_grow (M : Nat) (l : List UInt8) (f v : Nat) (n : Int) : l.length ≤ (numW M l f v n).l.length := by
  unfold numW
  split
  · exact Nat.le_refl _
  · split
    · exact Nat.le_refl _
    · exact putW_grow ..
theorem numW_le' {M : Nat} {l : List UInt8} (f v : Nat) (n : Int) (h : l.length ≤ M) : (numW M l f v n).l.length ≤ M := by
  unfold numW
  split
  · exact h
  · split
    · exact h
    · exact putW_le _ _ h
theorem Inv.grow {M : Nat} {s : PS} (h : Inv M s) {l' : List UInt8} (f' : Nat) (h1 : s.l.length ≤ l'.length) (h2 : l'.length ≤ M) : Inv M { s with l := l', f := f' } :=
  ⟨h2, h.most, h.mark, fun a ha => Nat.le_trans (h.begun a ha) h1, Nat.le_trans h.olen h1⟩
theorem Inv.put {M : Nat} {s : PS} (h : Inv M s) (x : List UInt8) : Inv M (putS M s x).2 := h.grow _ (putW_grow ..) (putW_le _ _ h.le)
theorem Inv.num {M : Nat} {s : PS} (h : Inv M s) (v : Nat) (n : Int) : Inv M (numS M s v n).2 := h.grow _ (numW_grow ..) (numW_le' _ _ _ h.le)
theorem Inv.upd {M : Nat} {s : PS} (h : Inv M s) (r : List UInt8) {a : Nat} (ha : a < 16384) : Inv M { s with m := upd s.m r a } :=
  ⟨h.le, h.most, fun k b hb => by
    unfold Go.Proofs.YtdpgcgaalamgkaaGreat.upd at hb
    simp only at hb
    split at hb
    · cases hb; exact ha
    · exact h.mark _ _ hb, h.begun, h.olen⟩
theorem Inv.keep {M : Nat} {s : PS} (h : Inv M s) (r : List UInt8) (a : Nat) : Inv M (keepS s r a) := by
  unfold keepS
  split
  · rename_i ha
    exact h.upd r ha
  · exact h
theorem put_ok {M : Nat} {s : PS} {x : List UInt8} (h : (putS M s x).1 = 0) : s.f = 0 ∧ s.l.length + x.length ≤ M ∧ (putS M s x).2 = { s with l := s.l ++ x } := by
  unfold putS putW at h ⊢
  by_cases hf : s.f = 0
  · by_cases hl : M < s.l.length + x.length
    · simp [hf, hl] at h
    · refine ⟨hf, by omega, ?_⟩
      simp [hf, hl]
  · simp [hf] at h
theorem putW_fits {M : Nat} {l x : List UInt8} (h : l.length + x.length ≤ M) : putW M l 0 x = ⟨0, l ++ x, 0⟩ := by
  unfold putW
  rw [if_neg (by omega), if_neg (by omega)]
theorem put_room {M : Nat} {s : PS} {x : List UInt8} (hf : s.f = 0) (h : s.l.length + x.length ≤ M) : putS M s x = (0, { s with l := s.l ++ x }) := by
  unfold putS
  rw [hf, putW_fits h]
theorem headN_cons (c : UInt8) (t : List UInt8) : headN (c :: t) = c :: t.take c.toNat := by
  unfold headN
  rw [List.headD_cons, Nat.add_comm]
  rfl
theorem restN_cons (c : UInt8) (t : List UInt8) : restN (c :: t) = t.drop c.toNat := by
  unfold restN
  rw [List.headD_cons, Nat.add_comm]
  rfl
theorem head_rest (r : List UInt8) : headN r ++ restN r = r := List.take_append_drop _ _
theorem enc1_head {x : List UInt8} (hx : ok1 x) (r : List UInt8) : headN (enc1 x ++ r) = enc1 x ∧ restN (enc1 x ++ r) = r := by
  unfold ok1 at hx
  have hn : (UInt8.ofNat x.length).toNat = x.length := UInt8.toNat_ofNat_of_lt' (by show _ < 256; omega)
  unfold enc1
  rw [List.cons_append, headN_cons, restN_cons, hn]
  exact ⟨by rw [List.take_left' rfl], List.drop_left' rfl⟩
/-- Octets that are labels, one behind the other. -/
def Labs (r : List UInt8) : Prop := ∃ L, okN L ∧ r = enc L
theorem labs_of_chk {n : List UInt8} (h : chkN n = 0) : Labs n := ⟨labs n, labs_ok n, (chkN_iff.1 h).2.symm⟩
theorem Labs.step {r : List UInt8} (h : Labs r) (hr : r ≠ []) : ∃ c t, r = c :: t ∧ 1 ≤ c.toNat ∧ c.toNat ≤ 63 ∧ c.toNat ≤ t.length ∧ Labs (restN r) := by
  obtain ⟨L, hL, rfl⟩ := h
  rcases L with _ | ⟨x, L⟩
  · exact absurd rfl hr
  · obtain ⟨hx, hL'⟩ := okN_cons.1 hL
    obtain ⟨h1, h2⟩ := enc1_head hx (enc L)
    have hx' := hx
    unfold ok1 at hx'
    have hn : (UInt8.ofNat x.length).toNat = x.length := UInt8.toNat_ofNat_of_lt' (by show _ < 256; omega)
    refine ⟨UInt8.ofNat x.length, x ++ enc L, rfl, by omega, by omega, by rw [hn, List.length_append]; omega, ?_⟩
    rw [enc_cons, h2]
    exact ⟨L, hL', rfl⟩
theorem rest_lt {r : List UInt8} (hr : r ≠ []) : (restN r).length < r.length := by
  unfold restN
  have : 0 < r.length := List.length_pos_iff.2 hr
  rw [List.length_drop]
  omega
theorem nameF_nil {M k : Nat} {s : PS} : nameF M (k + 1) [] s = putS M s [0] := if_pos rfl
theorem nameF_some {M k a : Nat} {r : List UInt8} {s : PS} (hr : r ≠ []) (h : s.m r = some a) : nameF M (k + 1) r s = numS M s (49152 + a) 2 := by
  unfold nameF
  rw [if_neg hr, h]
theorem nameF_long {M k : Nat} {r : List UInt8} {s : PS} (hr : r ≠ []) (h : s.m r = none) (hp : (putS M s (headN r)).1 ≠ 0) : nameF M (k + 1) r s = putS M s (headN r) := by
  conv => lhs; unfold nameF
  rw [if_neg hr, h]
  simp only [hp, if_false]
theorem nameF_next {M k : Nat} {r : List UInt8} {s : PS} (hr : r ≠ []) (h : s.m r = none) (hp : (putS M s (headN r)).1 = 0) : nameF M (k + 1) r s = nameF M k (restN r) (keepS (putS M s (headN r)).2 r s.l.length) := by
  conv => lhs; unfold nameF
  rw [if_neg hr, h]
  simp only [hp, if_true]
theorem plainF_nil {M k : Nat} {s : PS} : plainF M (k + 1) [] s = putS M s [0] := if_pos rfl
theorem plainF_long {M k : Nat} {r : List UInt8} {s : PS} (hr : r ≠ []) (hp : (putS M s (headN r)).1 ≠ 0) : plainF M (k + 1) r s = putS M s (headN r) := by
  conv => lhs; unfold plainF
  rw [if_neg hr, if_neg hp]
theorem plainF_next {M k : Nat} {r : List UInt8} {s : PS} (hr : r ≠ []) (hp : (putS M s (headN r)).1 = 0) : plainF M (k + 1) r s = plainF M k (restN r) (putS M s (headN r)).2 := by
  conv => lhs; unfold plainF
  rw [if_neg hr, if_pos hp]
end Go.Proofs.YtdpgcgaalamgkaaGreat
namespace Go.Proofs.YtdpgcgaalamgkaaGreat
open Go.RowKit
set_option linter.unusedVariables false

/-- An address: is it of the newer kind; the higher half; the lower one. -/
abbrev Ad := Bool × Nat × Nat
/-- As the program holds it. -/
def av (a : Ad) : Value := .agg #[.bool a.1, .int .u64 (a.2.1 : Int), .int .u64 (a.2.2 : Int)]
def noA : Ad := (false, 0, 0)
/-- What Check answers. -/
def chkA (a : Ad) : Nat := if a.1 = false ∧ (a.2.1 ≠ 0 ∨ 4294967295 < a.2.2) then 2 else 0

/-- Parts put together, the highest first, to the base m. -/
def jn (m : Nat) (l : List Nat) : Nat := l.foldl (fun v p => v * m + p) 0
def nats (l : List UInt8) : List Nat := l.map (·.toNat)
def elderA (l : List Nat) : Ad := (false, 0, jn 256 l)
def newerA (m : Nat) (l : List Nat) : Ad := (true, jn m (l.take (l.length / 2)), jn m (l.drop (l.length / 2)))
def allO (a : Ad) : List UInt8 := octs a.2.1 8 ++ octs a.2.2 8
/-- What Octets answers of one that may be. -/
def octA (a : Ad) : List UInt8 := if a.1 then allO a else octs a.2.2 4
def pairs : List UInt8 → List Nat
  | x :: y :: r => (x.toNat * 256 + y.toNat) :: pairs r
  | _ => []
/-- The eight groups. -/
def grpA (a : Ad) : List Nat := pairs (allO a)

/-! ### Digits -/
def hexd (d : Nat) : UInt8 := if d < 10 then UInt8.ofNat (48 + d) else UInt8.ofNat (87 + d)
def hexF : Nat → Nat → List UInt8
  | 0, _ => []
  | f + 1, v => if v < 16 then [hexd v] else hexF f (v / 16) ++ [hexd (v % 16)]
/-- A number's digits by sixteen. -/
def hexT (v : Nat) : List UInt8 := hexF 16 v
/-- A number's digits by ten. -/
def decT (v : Nat) : List UInt8 := Lib.itoa (v : Int)
def hxv (c : UInt8) : Option Nat :=
  if 48 ≤ c.toNat ∧ c.toNat ≤ 57 then some (c.toNat - 48) else if 97 ≤ c.toNat ∧ c.toNat ≤ 102 then some (c.toNat - 87) else if 65 ≤ c.toNat ∧ c.toNat ≤ 70 then some (c.toNat - 55) else none
def hxF : Nat → List UInt8 → Option Nat
  | acc, [] => some acc
  | acc, c :: r => match hxv c with
    | none => none
    | some d => hxF (acc * 16 + d) r
/-- The number whose digits by sixteen these are, at most so many. -/
def hexO (most : Nat) (s : List UInt8) : Option Nat := if most < s.length ∨ s = [] then none else hxF 0 s
/-- The octet whose digits by ten these are. -/
def numO (s : List UInt8) : Option Nat := match Lib.parseUintB 8 s with
  | .ok v => if decT v = s then some v else none
  | _ => none
def eachO (f : List UInt8 → Option Nat) : List (List UInt8) → Option (List Nat)
  | [] => some []
  | x :: L => match f x with
    | none => none
    | some v => match eachO f L with
      | none => none
      | some l => some (v :: l)

/-! ### What is read -/
def splitA (s : List UInt8) (by' : UInt8) (n : Nat) : List (List UInt8) := if s = [] then [] else Lib.splitN s [by'] (n + 1)
def ofNumO (L : List (List UInt8)) : Option Ad := match eachO numO L with
  | none => none
  | some l => if l.length = 4 then some (elderA l) else none
def eldO (s : List UInt8) : Option Ad := ofNumO (splitA s 46 4)
/-- Groups with : between. -/
def grpT (g : List Nat) : List UInt8 := Lib.join (g.map hexT) [58]
/-- The place behind the last colon. -/
def lastK (s : List UInt8) : Nat := (Lib.lastIndex s [58] + 1).toNat
def withO (s : List UInt8) : Option (List UInt8) :=
  if Lib.contains (s.drop (lastK s)) [46] = false then some s
  else match eldO (s.drop (lastK s)) with
    | none => none
    | some a => some (s.take (lastK s) ++ grpT ((grpA a).drop 6))
def gapG (a b : List Nat) : List Nat := a ++ List.replicate (8 - a.length - b.length) 0 ++ b
def newO (s : List UInt8) : Option Ad := match withO s with
  | none => none
  | some p => match eachO (hexO 4) (splitA (Lib.cut p [58, 58]).1 58 8) with
    | none => none
    | some a => match eachO (hexO 4) (splitA (Lib.cut p [58, 58]).2.1 58 8) with
      | none => none
      | some b => if 8 < a.length + b.length ∨ (Lib.cut p [58, 58]).2.2 ≠ decide (a.length + b.length < 8) then none else some (newerA 65536 (gapG a b))
def readO (s : List UInt8) : Option Ad := if Lib.contains s [58] then newO s else eldO s
/-- What Read answers. -/
def rdA (s : List UInt8) : Ad × Nat := match readO s with
  | some a => (a, 0)
  | none => (noA, 7)

/-! ### What is told -/
def noF : List Nat → Nat → Nat → Nat → Nat → Nat × Nat
  | [], _, _, f, t => (f, t)
  | c :: r, e, s, f, t => if max (t - f) 1 < e - (if c ≠ 0 then e else s) then noF r (e + 1) (if c ≠ 0 then e else s) (if c ≠ 0 then e else s) e else noF r (e + 1) (if c ≠ 0 then e else s) f t
/-- Where the longest run of noughts begins, and ends. -/
def noughts (g : List Nat) : Nat × Nat := noF g 1 0 0 0
def text6 (g : List Nat) : List UInt8 := if (noughts g).1 = (noughts g).2 then grpT g else grpT (g.take (noughts g).1) ++ [58, 58] ++ grpT (g.drop (noughts g).2)
def numsT (l : List UInt8) : List (List UInt8) := l.map fun c => decT c.toNat
def digsT (l : List UInt8) : List (List UInt8) := l.flatMap fun c => [hexT (c.toNat / 16), hexT (c.toNat % 16)]
/-- What Text answers. -/
def txA (a : Ad) : List UInt8 × Nat := if chkA a ≠ 0 then ([], chkA a) else if a.1 then (text6 (grpA a), 0) else (Lib.join (numsT (octA a)) [46], 0)
/-- What Octets answers. -/
def ocA (a : Ad) : List UInt8 × Nat := if chkA a ≠ 0 then ([], chkA a) else (octA a, 0)
/-- What Of answers. -/
def ofA (s : List UInt8) : Ad × Nat := if s.length = 4 then (elderA (nats s), 0) else if s.length = 16 then (newerA 256 (nats s), 0) else (noA, 2)
def inaddr : List UInt8 := [105, 110, 45, 97, 100, 100, 114]
def ip6 : List UInt8 := [105, 112, 54]
def arpa : List UInt8 := [97, 114, 112, 97]
/-- The labels of the reverse name. -/
def revL (a : Ad) : List (List UInt8) := if a.1 then (digsT (octA a)).reverse ++ [ip6, arpa] else (numsT (octA a)).reverse ++ [inaddr, arpa]
/-- What Reverse answers. -/
def revA (a : Ad) : List UInt8 × Nat := if chkA a ≠ 0 then ([], chkA a) else mkN (revL a)
example : rdA [49, 58, 48, 58, 48, 58, 50, 58, 48, 58, 48, 58, 48, 58, 51] = ((true, 281474976710658, 3), 0) := by decide +kernel
example : txA (true, 281474976710658, 3) = ([49, 58, 48, 58, 48, 58, 50, 58, 58, 51], 0) := by decide +kernel
example : revA (elderA [1, 2, 3, 4]) = ([1, 52, 1, 51, 1, 50, 1, 49, 7, 105, 110, 45, 97, 100, 100, 114, 4, 97, 114, 112, 97], 0) := by decide +kernel
end Go.Proofs.YtdpgcgaalamgkaaGreat
namespace Go.Proofs.YtdpgcgaalamgkaaGreat
set_option linter.unusedVariables false

/-- The part that octets begin with: how many octets it has, the error. -/
def partU : List UInt8 → Nat × Nat
  | [] => (0, 8)
  | c :: t => if 192 ≤ c.toNat then (if t.length < 1 then (0, 8) else (2, 0)) else if 63 < c.toNat then (0, 4) else if t.length < c.toNat then (0, 8) else (1 + c.toNat, 0)
theorem partU_cons (c : UInt8) (t : List UInt8) : partU (c :: t) = if 192 ≤ c.toNat then (if t.length < 1 then (0, 8) else (2, 0)) else if 63 < c.toNat then (0, 4) else if t.length < c.toNat then (0, 8) else (1 + c.toNat, 0) := rfl

/-- What a walk along a name has: the name, the place behind it, how many pointers were followed, the error; where the run began, where the next part begins, what the last step went over. -/
structure US where
  l : List UInt8
  e : Nat
  j : Nat
  f : Nat
  r : Nat
  p : Nat
  t : List UInt8
def failU (s : US) (e : Nat) : US := { s with l := [], e := 0, j := 0, f := e }
/-- A step over a part of n octets. -/
def overU (x : List UInt8) (s : US) (n : Nat) : US := { s with t := (x.drop s.p).take n, p := s.p + n, e := if s.j = 0 then s.p + n else s.e }
def toU (t : List UInt8) : Nat := 256 * ((t.headD 0).toNat - 192) + (t.getD 1 0).toNat
def followU (s : US) : US := if s.r ≤ toU s.t then failU s 4 else { s with r := toU s.t, p := toU s.t, j := s.j + 1 }
def keepU (s : US) : US := if 254 < s.l.length + s.t.length then failU s 3 else { s with l := s.l ++ s.t }
def isPtr (t : List UInt8) : Bool := decide (192 ≤ (t.headD 0).toNat)
/-- What comes of a walk, in so many steps at most. -/
def runU (x : List UInt8) : Nat → US → US
  | 0, s => s
  | k + 1, s => if s.f ≠ 0 then s else if (partU (x.drop s.p)).2 ≠ 0 then failU s (partU (x.drop s.p)).2
      else if (overU x s (partU (x.drop s.p)).1).t = [0] then overU x s (partU (x.drop s.p)).1
      else if isPtr (overU x s (partU (x.drop s.p)).1).t = true then runU x k (followU (overU x s (partU (x.drop s.p)).1))
      else runU x k (keepU (overU x s (partU (x.drop s.p)).1))
/-- Where a walk begins. -/
def begU (a r : Nat) : US := ⟨[], 0, 0, 0, r, a, []⟩
/-- More steps than a walk can have. -/
def muU (x : List UInt8) (s : US) : Nat := if s.f ≠ 0 then 0 else s.r * (x.length + 1) + (x.length - s.p) + 1
/-- What reading at a place answers, the first pointer leading ahead of a run. -/
def readU (x : List UInt8) (a : Int) (r : Int) : US :=
  if a < 0 ∨ (x.length : Int) < a then failU (begU 0 0) 2 else runU x (muU x (begU a.toNat r.toNat)) (begU a.toNat r.toNat)
/-- A part without an error. -/
theorem partU_ok {r : List UInt8} (h : (partU r).2 = 0) : 1 ≤ (partU r).1 ∧ (partU r).1 ≤ r.length ∧ (partU r).1 ≤ 64 ∧ ∃ c t, r = c :: t ∧
    ((c.toNat ≤ 63 ∧ (partU r).1 = 1 + c.toNat) ∨ (192 ≤ c.toNat ∧ (partU r).1 = 2)) := by
  rcases r with _ | ⟨c, t⟩
  · cases h
  · rw [partU_cons] at h ⊢
    by_cases h1 : 192 ≤ c.toNat
    · simp only [if_pos h1] at h ⊢
      by_cases h2 : t.length < 1
      · simp only [if_pos h2] at h; cases h
      · simp only [if_neg h2] at h ⊢
        exact ⟨by omega, by rw [List.length_cons]; omega, by omega, c, t, rfl, .inr ⟨h1, by first | rfl | trivial⟩⟩
    · simp only [if_neg h1] at h ⊢
      by_cases h3 : 63 < c.toNat
      · simp only [if_pos h3] at h; cases h
      · simp only [if_neg h3] at h ⊢
        by_cases h4 : t.length < c.toNat
        · simp only [if_pos h4] at h; cases h
        · simp only [if_neg h4] at h ⊢
          exact ⟨by omega, by rw [List.length_cons]; omega, by omega, c, t, rfl, .inl ⟨by omega, by first | rfl | trivial⟩⟩
/-- What always holds of a walk along so many octets. -/
structure InvU (n : Nat) (s : US) : Prop where
  p : s.p ≤ n
  jr : s.j + s.r ≤ n
  l : s.l.length ≤ 254
  e : s.e ≤ n
  t : s.t.length ≤ 64
theorem begU_inv {n a r : Nat} (h : a ≤ n) (h' : r ≤ n) : InvU n (begU a r) := ⟨h, by simpa [begU] using h', by simp [begU], by simp [begU], by simp [begU]⟩
theorem failU_inv {n : Nat} {s : US} (h : InvU n s) (e : Nat) : InvU n (failU s e) := ⟨h.p, by have := h.jr; simp [failU]; omega, by simp [failU], by simp [failU], h.t⟩
theorem overU_t {x : List UInt8} {s : US} (h : (partU (x.drop s.p)).2 = 0) : (overU x s (partU (x.drop s.p)).1).t.length = (partU (x.drop s.p)).1 := by
  obtain ⟨h1, h2, _⟩ := partU_ok h
  show ((x.drop s.p).take _).length = _
  rw [List.length_take]
  omega
theorem overU_inv {x : List UInt8} {s : US} (hi : InvU x.length s) (h : (partU (x.drop s.p)).2 = 0) : InvU x.length (overU x s (partU (x.drop s.p)).1) := by
  have ht := overU_t h
  obtain ⟨h1, h2, h3, _⟩ := partU_ok h
  rw [List.length_drop] at h2
  refine ⟨?_, hi.jr, hi.l, ?_, by omega⟩
  · show s.p + _ ≤ _
    have := hi.p
    omega
  · show (if s.j = 0 then _ else _) ≤ _
    have := hi.e
    have := hi.p
    split <;> omega
theorem followU_inv {n : Nat} {s : US} (h : InvU n s) : InvU n (followU s) := by
  unfold followU
  split
  · exact failU_inv h 4
  · have := h.jr
    exact ⟨by simp only; omega, by simp only; omega, h.l, h.e, h.t⟩
theorem keepU_inv {n : Nat} {s : US} (h : InvU n s) : InvU n (keepU s) := by
  unfold keepU
  split
  · exact failU_inv h 3
  · exact ⟨h.p, h.jr, by simp only [List.length_append]; omega, h.e, h.t⟩
/-- A round has a step less. -/
theorem mu_follow {x : List UInt8} {s : US} {k : Nat} (hi : InvU x.length s) (h : (partU (x.drop s.p)).2 = 0) (hf : s.f = 0) (hk : muU x s ≤ k + 1) : muU x (followU (overU x s (partU (x.drop s.p)).1)) ≤ k := by
  obtain ⟨h1, h2, _⟩ := partU_ok h
  rw [List.length_drop] at h2
  have hp := hi.p
  unfold muU at hk
  rw [if_neg (by omega)] at hk
  unfold followU
  split
  · simp [muU, failU]
  · rename_i hlt
    simp only [muU]
    rw [if_neg (by simpa [overU] using hf)]
    simp only [overU] at hlt ⊢
    have : (toU ((x.drop s.p).take (partU (x.drop s.p)).1) + 1) * (x.length + 1) ≤ s.r * (x.length + 1) := Nat.mul_le_mul_right _ (by omega)
    rw [Nat.add_mul, Nat.one_mul] at this
    omega
theorem mu_keep {x : List UInt8} {s : US} {k : Nat} (hi : InvU x.length s) (h : (partU (x.drop s.p)).2 = 0) (hf : s.f = 0) (hk : muU x s ≤ k + 1) : muU x (keepU (overU x s (partU (x.drop s.p)).1)) ≤ k := by
  obtain ⟨h1, h2, _⟩ := partU_ok h
  rw [List.length_drop] at h2
  have hp := hi.p
  unfold muU at hk
  rw [if_neg (by omega)] at hk
  unfold keepU
  split
  · simp [muU, failU]
  · simp only [muU]
    rw [if_neg (by simpa [overU] using hf)]
    simp only [overU]
    omega
theorem runU_stop {x : List UInt8} {k : Nat} {s : US} (h : s.f ≠ 0) : runU x k s = s := by
  cases k with
  | zero => rfl
  | succ k => unfold runU; rw [if_pos h]
theorem runU_bad {x : List UInt8} {k : Nat} {s : US} (hf : s.f = 0) (h : (partU (x.drop s.p)).2 ≠ 0) : runU x (k + 1) s = failU s (partU (x.drop s.p)).2 := by
  unfold runU
  rw [if_neg (by omega), if_pos h]
theorem runU_end {x : List UInt8} {k : Nat} {s : US} (hf : s.f = 0) (h : (partU (x.drop s.p)).2 = 0) (ht : (overU x s (partU (x.drop s.p)).1).t = [0]) : runU x (k + 1) s = overU x s (partU (x.drop s.p)).1 := by
  unfold runU
  rw [if_neg (by omega), if_neg (by omega), if_pos ht]
theorem runU_ptr {x : List UInt8} {k : Nat} {s : US} (hf : s.f = 0) (h : (partU (x.drop s.p)).2 = 0) (ht : (overU x s (partU (x.drop s.p)).1).t ≠ [0]) (hp : isPtr (overU x s (partU (x.drop s.p)).1).t = true) : runU x (k + 1) s = runU x k (followU (overU x s (partU (x.drop s.p)).1)) := by
  conv => lhs; unfold runU
  rw [if_neg (by omega), if_neg (by omega), if_neg ht, if_pos hp]
theorem runU_lab {x : List UInt8} {k : Nat} {s : US} (hf : s.f = 0) (h : (partU (x.drop s.p)).2 = 0) (ht : (overU x s (partU (x.drop s.p)).1).t ≠ [0]) (hp : isPtr (overU x s (partU (x.drop s.p)).1).t = false) : runU x (k + 1) s = runU x k (keepU (overU x s (partU (x.drop s.p)).1)) := by
  conv => lhs; unfold runU
  rw [if_neg (by omega), if_neg (by omega), if_neg ht, if_neg (by simp [hp])]
end Go.Proofs.YtdpgcgaalamgkaaGreat
namespace Go.Proofs.YtdpgcgaalamgkaaGreat
open Go.RowKit

theorem Check_any (s : ByteArray) (w : World) (hs : s.size ≤ maxLen) :
    Calls Tryz.prog 246 #[.string s] w fun e w' => e = .returned (.int .i64 (chk (bs s))) ∧ w = w' := by
  have hl : chk (bs s) = if s.size = 0 then 2 else if 63 < s.size then 3 else 0 := by unfold chk; rw [bs_length]
  have HL := Lib.hid hl
  clear hl
  unfold maxLen at hs
  by_cases h0 : s.size = 0
  · have hz : ((s.size : Int) == 0) = true := beq_iff_eq.2 (by omega)
    have h1 : ¬ (63 : Int) < s.size := by omega
    have HF := Lib.hid (show chk (bs s) = 2 by rw [HL.out, if_pos h0])
    clear h0
    go_enter Tryz.func246, Tryz.ntmps246
    go_wp2
    go_ret
    exact ⟨by rw [HF.out]; rfl, rfl⟩
  · have hz : ((s.size : Int) == 0) = false := beq_eq_false_iff_ne.2 (by omega)
    by_cases h1 : 63 < s.size
    · have HF := Lib.hid (show chk (bs s) = 3 by rw [HL.out, if_neg h0, if_pos h1])
      clear h0
      go_enter Tryz.func246, Tryz.ntmps246
      go_wp2
      go_ret
      exact ⟨by rw [HF.out]; rfl, rfl⟩
    · have HF := Lib.hid (show chk (bs s) = 0 by rw [HL.out, if_neg h0, if_neg h1])
      clear h0
      go_enter Tryz.func246, Tryz.ntmps246
      go_wp2
      go_ret
      exact ⟨by rw [HF.out]; rfl, rfl⟩

end Go.Proofs.YtdpgcgaalamgkaaGreat
namespace Go.Proofs.YtdpgcgaalamgkaaGreat
open Go.RowKit

end Go.Proofs.YtdpgcgaalamgkaaGreat
namespace Go.Proofs.YtdpgcgaalamgkaaGreat
open Go.RowKit
set_option linter.unusedVariables false

theorem below_draws {B0 : Nat} {a w : World} (h : Below B0 a w) (n : Nat) : Below B0 a (w.drewN n) := ⟨h.os, h.tape, h.output, h.size, h.block⟩

theorem btN : BT Tryz.prog 5 58 22 := ⟨Tryz.underlying5, Tryz.underlying58, Tryz.underlying22, by kernel_rfl⟩

/-- What cut answers. -/
def Cut (w : World) (x r : ByteArray) (b : Bool) (e : Ending) (w' : World) : Prop := e = .returned (.tuple #[.string x, .string r, .bool b]) ∧ Below w.heap.size w w'
theorem cut_ret {w w' : World} {x r x' r' : ByteArray} {b : Bool} (hx : x = x') (hr : r = r') (hb : Below w.heap.size w w') : Cut w x' r' b (.returned (.tuple #[.string x, .string r, .bool b])) w' := by
  subst hx; subst hr; exact ⟨rfl, hb⟩
theorem empty_no {s : ByteArray} (h : 0 < s.size) : s.toList.isEmpty = false ∧ ¬ s.toList = [] := by
  have hn : ¬ s.toList = [] := fun e => by
    rw [bs_toList] at e
    have := bs_length s
    rw [e] at this
    simp at this
    omega
  exact ⟨by cases h : s.toList <;> simp_all, hn⟩
theorem empty_yes {s : ByteArray} (h : s.size = 0) : s.toList = [] := by
  rw [bs_toList]
  exact List.eq_nil_of_length_eq_zero (by rw [bs_length]; exact h)
theorem head_at (s : ByteArray) (h : 0 < s.size) : bs s = s[0] :: (bs s).drop 1 := by
  have := drop_at s 0 h
  simpa using this

set_option maxHeartbeats 1000000 in
theorem cut_some (n x r : ByteArray) (w : World) (hs : n.size ≤ maxLen) (h : cutL (bs n) = some (bs x, bs r)) :
    Calls Tryz.prog 190 #[.string n] w (Cut w x r true) := by
  have hc := cutL_some h
  have hl := cutL_len h
  have h0 : 0 < n.size := by rw [← bs_length]; omega
  rw [head_at n h0, cutL_cons] at h
  split at h
  · rename_i hk
    simp only [Option.some.injEq, Prod.mk.injEq, List.length_drop, bs_length] at h hk
    obtain ⟨h1, h2⟩ := h
    obtain ⟨hk1, hk2, hk3⟩ := hk
    obtain ⟨e1, e2⟩ := empty_no h0
    have hX : n.extract 1 (1 + n[0].toNat) = x := bs_inj (by rw [bs_extract, ← h1]; congr 1; omega)
    have hR : n.extract (1 + n[0].toNat) n.size = r := bs_inj (by rw [bs_extract, ← h2, List.drop_drop, List.take_of_length_le (by rw [List.length_drop, bs_length]; omega)])
    have HX := Lib.hid hX
    have HR := Lib.hid hR
    have HC : Hid (∀ wx, Calls Tryz.prog 246 #[.string (n.extract 1 (1 + n[0].toNat))] wx fun e w' => e = .returned (.int .i64 0) ∧ wx = w') := Lib.hid (fun wx => by
      rw [hX]
      have hk := Check_any x wx (by have := hc.2.2; rw [bs_length] at this; unfold maxLen; omega)
      rw [ok1_chk.1 hc.2] at hk
      exact hk)
    clear h1 h2 hX hR hc hl
    unfold maxLen at hs
    go_enter Tryz.func190, Tryz.ntmps190
    go_wp2_with (go_at_call 246; refine (HC.out _).mono ?_; rintro e w' ⟨rfl, rfl⟩)
    go_quiet (fail)
    go_wp2
    go_ret3
    exact cut_ret HX.out HR.out (below_draws (Below.refl _ _) _)
  · cases h

set_option maxHeartbeats 1000000 in
theorem cut_none (n : ByteArray) (w : World) (hs : n.size ≤ maxLen) (h : cutL (bs n) = none) :
    Calls Tryz.prog 190 #[.string n] w (Cut w ⟨#[]⟩ ⟨#[]⟩ false) := by
  rcases Nat.eq_zero_or_pos n.size with h0 | h0
  · have e1 := empty_yes h0
    clear h h0 hs
    go_enter Tryz.func190, Tryz.ntmps190
    go_wp2
    go_ret3
    exact cut_ret rfl rfl (Below.refl _ _)
  · rw [head_at n h0, cutL_cons] at h
    split at h
    · cases h
    · rename_i hk
      rw [List.length_drop, bs_length] at hk
      obtain ⟨e1, e2⟩ := empty_no h0
      by_cases hk3 : n[0].toNat ≤ n.size - 1
      · obtain ⟨L, hL⟩ : ∃ L, L = n.extract 1 (1 + n[0].toNat) := ⟨_, rfl⟩
        have hLs : L.size = n[0].toNat := by
          rw [← bs_length, hL, bs_extract, List.length_take, List.length_drop, bs_length]
          omega
        have hck : chk (bs L) ≠ 0 := fun e => by
          have := ok1_chk.2 e
          unfold ok1 at this
          rw [bs_length] at this
          omega
        have hb : ((chk (bs L) : Int) != 0) = true := by rw [bne_iff_ne]; omega
        have HC : Hid (∀ wx, Calls Tryz.prog 246 #[.string (n.extract 1 (1 + n[0].toNat))] wx fun e w' => e = .returned (.int .i64 (chk (bs L))) ∧ wx = w') := Lib.hid (fun wx => by
          rw [← hL]
          exact Check_any L wx (by unfold maxLen; have := n[0].toNat_lt; omega))
        clear hL hLs hck hk h
        unfold maxLen at hs
        go_enter Tryz.func190, Tryz.ntmps190
        go_wp2_with (go_at_call 246; refine (HC.out _).mono ?_; rintro e w' ⟨rfl, rfl⟩)
        go_ret3
        exact cut_ret rfl rfl (Below.refl _ _)
      · have hc256 := n[0].toNat_lt
        have hgt : (n.size : Int) < 1 + n[0].toNat := by omega
        clear hk h
        unfold maxLen at hs
        go_enter Tryz.func190, Tryz.ntmps190
        go_wp2
        go_ret3
        exact cut_ret rfl rfl (Below.refl _ _)

end Go.Proofs.YtdpgcgaalamgkaaGreat
namespace Go.Proofs.YtdpgcgaalamgkaaGreat
open Go.RowKit Go.Shelf
set_option linter.unusedVariables false
attribute [local go_sem] Oper.semAt_some

theorem each_any (n : ByteArray) (w : World) :
    Calls Tryz.prog 153 #[.string n] w fun e w' => e = .returned (.func (.func 189) #[] #[.pointer (some ⟨w.heap.size, 0, none⟩)]) ∧ w' = w.alloc (.cells #[.string n] 22) := by
  go_enter Tryz.func153, Tryz.ntmps153
  go_wp2
  go_ret
  exact ⟨rfl, rfl⟩

def sizeOfV (v : Value) : Nat := match v with
  | .string s => s.size
  | _ => 0

/-- A label that may be. -/
abbrev Lab := { x : ByteArray // ok1 (bs x) }
def lb (x : Lab) : List UInt8 := bs x.1
theorem lb_le (L : List Lab) : (enc (L.map lb)).length ≤ 64 * L.length := by
  induction L with
  | nil => simp [enc]
  | cons x L ih =>
    have h2 := x.2.2
    rw [List.map_cons, enc_cons, List.length_append, enc1_length, List.length_cons]
    unfold lb at *
    omega
theorem lb_snoc (L : List Lab) (x : Lab) : enc ((L ++ [x]).map lb) = enc (L.map lb) ++ enc1 (bs x.1) := by rw [List.map_append, enc_append]; simp [lb, enc_one]
/-- What has come when a label more is told. -/
theorem came {n r : ByteArray} {X : Lab} {R : ByteArray} {pre : List Lab} (h : labs (bs n) = pre.map lb ++ labs (bs r)) (hc : cutL (bs r) = some (bs X.1, bs R)) : labs (bs n) = (pre ++ [X]).map lb ++ labs (bs R) := by
  rw [h, labs_some hc]
  simp [lb]

set_option maxRecDepth 100000 in
set_option maxHeartbeats 2000000 in
theorem each1_in (m l Bn : Nat) (hm : 1 ≤ m) (n : ByteArray) (hs : n.size ≤ maxLen) (J Jx : List Lab → World → Prop) (W : World) (hJ : AbidesFrom W.heap.size J)
    (hY : ∀ pre x W1, J pre W1 → pre.length < (labs (bs n)).length → YieldAt Fence.wide (m - 1) Tryz.prog l #[.string x.1] W1 fun e W' =>
      (e = .returned (.bool true) ∧ J (pre ++ [x]) W' ∧ True) ∨ (e = .returned (.bool false) ∧ Jx (pre ++ [x]) W'))
    (hBn : W.cell? ⟨Bn, 0, none⟩ = some (.string n)) (h0 : J [] W) :
    CallsIn Fence.wide m Tryz.prog 189 #[.func (.yield l) #[] #[], .pointer (some ⟨Bn, 0, none⟩)] W fun e W' => (∃ v, e = .returned v) ∧
      ((∃ ys, ys.map lb = labs (bs n) ∧ J ys W') ∨ (∃ pre, pre.map lb <+: labs (bs n) ∧ Jx pre W')) := by
  have HY := Lib.hid hY
  have HJ := Lib.hid hJ
  have hJ0 : Hid (labs (bs n) = ([] : List Lab).map lb ++ labs (bs n)) := Lib.hid rfl
  clear hY hJ
  refine callsIn_of_wp Tryz.func189 rfl trivial ?_ rfl
  simp only [Tryz.ntmps189, List.size_toArray, List.length_cons, List.length_nil, Nat.reduceAdd, Nat.reduceSub, Array.replicate_succ, Array.replicate_zero, List.push_toArray, List.append_toArray, List.nil_append, List.cons_append]
  gi_wp2
  gi_loopw [3] (fun p wr => ∃ (pre : List Lab) (r : ByteArray), p = .string r ∧ Hid (labs (bs n) = pre.map lb ++ labs (bs r)) ∧ r.size ≤ n.size ∧ J pre wr)
    (fun p _ => sizeOfV p)
  case atStart => exact ⟨[], n, rfl, hJ0, Nat.le_refl _, h0⟩
  case round =>
    clear hJ0 h0 hBn
    obtain ⟨pre, r, rfl, hx, hr, hJs⟩ := hrel
    have hrs : r.size ≤ maxLen := Nat.le_trans hr hs
    rcases hc : cutL (bs r) with _ | ⟨x, t⟩
    · have HC := Lib.hid (fun wx => cut_none r wx hrs hc)
      have HE : Hid (pre.map lb = labs (bs n)) := Lib.hid (by rw [hx.out, labs_none hc, List.append_nil])
      clear hc
      gi_wp2_with (refine ⟨trivial, ?_⟩; gi_at_call 190; refine (callsIn_wide.2 (HC.out _)).mono ?_; rintro e w2 ⟨rfl, hb2⟩)
      refine ⟨fun _ h => (by cases h), ?_⟩
      gi_wp2
      refine bodyPost_ret (results_none rfl _ _ _) rfl ?_
      exact ⟨⟨_, rfl⟩, .inl ⟨pre, HE.out, HJ.out _ _ _ none hJs (below_to_grown hb2) (fun _ e => by cases e)⟩⟩
    · obtain ⟨X, hX⟩ : ∃ X : ByteArray, bs X = x := ⟨_, bs_mk _⟩
      obtain ⟨R, hR⟩ : ∃ R : ByteArray, bs R = t := ⟨_, bs_mk _⟩
      rw [← hX, ← hR] at hc
      have hok : ok1 (bs X) := (cutL_some hc).2
      have HC := Lib.hid (fun wx => cut_some r X R wx hrs hc)
      have HE : Hid (labs (bs n) = (pre ++ [(⟨X, hok⟩ : Lab)]).map lb ++ labs (bs R)) := Lib.hid (came (X := ⟨X, hok⟩) hx.out hc)
      have hlen := cutL_len hc
      rw [bs_length, bs_length] at hlen
      have hpl : pre.length < (labs (bs n)).length := by
        have := congrArg List.length HE.out
        simp at this
        omega
      clear hc hX hR hx
      gi_wp2_with (refine ⟨trivial, ?_⟩; gi_at_call 190; refine (callsIn_wide.2 (HC.out _)).mono ?_; rintro e w2 ⟨rfl, hb2⟩; obtain ⟨fn, tmps, assign, body, hy, hRd⟩ := HY.out pre ⟨X, hok⟩ w2 (HJ.out _ _ _ none hJs (below_to_grown hb2) (fun _ e => by cases e)) hpl; dsimp only at hy)
      refine hRd.mono ?_
      rintro e W3 (⟨rfl, hJ3, _⟩ | ⟨rfl, hJx3⟩)
      · gi_wp2
        go_roundw
        case rel => exact ⟨pre ++ [⟨X, hok⟩], R, rfl, HE, by omega, hJ3⟩
        case measure => simp [sizeOfV]; omega
      · gi_wp2
        refine bodyPost_ret (results_none rfl _ _ _) rfl ?_
        refine ⟨⟨_, rfl⟩, .inr ⟨pre ++ [⟨X, hok⟩], ?_, hJx3⟩⟩
        rw [HE.out]
        exact List.prefix_append _ _

/-- each hands back a value that tells the labels of n, all, or a part where a round has said that no more is wanted. -/
theorem each_stops (m Bn : Nat) (hm : 1 ≤ m) (n : ByteArray) (hs : n.size ≤ maxLen) (w : World) (hBn : Bn < w.heap.size) (hc : w.cell? ⟨Bn, 0, none⟩ = some (.string n)) :
    SeqStopsK Fence.wide m Tryz.prog 189 #[.pointer (some ⟨Bn, 0, none⟩)] (fun x : Lab => #[Value.string x.1]) (fun _ _ => True) (fun ys => ys.map lb = labs (bs n)) (fun pre => pre.map lb <+: labs (bs n)) (labs (bs n)).length w := fun l J Jx W hW hJ _ hY h0 =>
  each1_in m l Bn hm n hs J Jx W hJ hY ((hW.cell (p := ⟨Bn, 0, none⟩) hBn).trans hc) h0
end Go.Proofs.YtdpgcgaalamgkaaGreat
namespace Go.Proofs.YtdpgcgaalamgkaaGreat
open Go.RowKit Go.Shelf
set_option linter.unusedVariables false
attribute [local go_sem] Oper.semAt_some

/-- The sum that Check makes. -/
def CkI (w : World) (B : Nat) (pre : List Lab) (W : World) : Prop := Boxed W B 3 (.int .i64 (enc (pre.map lb)).length) ∧ Below w.heap.size w W
theorem ckI_own (w : World) (B K : Nat) (hB : w.heap.size ≤ K) : OwnFrom K (CkI w B) :=
  OwnFrom.and (Own.from (boxed_own B 3 (fun pre : List Lab => Value.int .i64 (enc (pre.map lb)).length)) _) (ownFrom_below (Nat.le_refl _) hB)

theorem nCheck_long (n : ByteArray) (w : World) (hs : n.size ≤ maxLen) (h : 254 < n.size) :
    Calls Tryz.prog 112 #[.string n] w fun e w' => e = .returned (.int .i64 (chkN (bs n))) ∧ Below w.heap.size w w' := by
  have HP := Lib.hid (chkN_long (l := bs n) (by rw [bs_length]; exact h))
  unfold maxLen at hs
  go_enter Tryz.func112, Tryz.ntmps112
  go_wp2
  go_ret
  exact ⟨by rw [HP.out]; rfl, Below.refl _ _⟩

set_option maxRecDepth 100000 in
set_option maxHeartbeats 2000000 in
theorem nCheck_short (n : ByteArray) (w : World) (hs : n.size ≤ 254) :
    Calls Tryz.prog 112 #[.string n] w fun e w' => e = .returned (.int .i64 (chkN (bs n))) ∧ Below w.heap.size w w' := by
  have hN : (labs (bs n)).length ≤ 254 := by
    obtain ⟨h1, r, h2, _⟩ := labs_pre _ (bs n) (Nat.le_refl _)
    have := enc_two h1
    have h3 := congrArg List.length h2
    rw [List.length_append, bs_length] at h3
    omega
  have hm : n.size ≤ maxLen := by unfold maxLen; omega
  have HP : Hid (chkN (bs n) = if (enc (labs (bs n))).length = n.size then 0 else 4) := Lib.hid (by
    unfold chkN
    rw [bs_length, if_neg (by omega)])
  refine (callsIn_wide (n := 9)).1 ?_
  refine callsIn_of_wp_marks Tryz.func112 rfl trivial ?_ rfl
  simp only [Tryz.ntmps112, List.size_toArray, List.length_cons, List.length_nil, Nat.reduceAdd, Nat.reduceSub, Array.replicate_succ, Array.replicate_zero, List.push_toArray, List.append_toArray, List.nil_append, List.cons_append]
  gi_wp2_with (refine ⟨trivial, ?_⟩; gi_at_call 153; refine (callsIn_wide.2 (each_any _ _)).mono ?_; rintro e w' ⟨rfl, rfl⟩)
  have bO := Boxed.new w 3 (.int .i64 0)
  have bN := Boxed.new (w.alloc (.cells #[.int .i64 0] 3)) 22 (.string n)
  rw [World.size_alloc] at bN
  have hB0 : Below w.heap.size w ((w.alloc (.cells #[.int .i64 0] 3)).alloc (.cells #[.string n] 22)) := ((Below.refl _ w).alloc (Nat.le_refl _) _).alloc (by simp) _
  refine wpIn_rangeFunc_ownG rfl (by omega) (gf := 189) (lb := #[.pointer (some ⟨w.heap.size + 1, 0, none⟩)]) rfl trivial (enters_of Tryz.func189 (by kernel_rfl) rfl)
    (each_stops _ (w.heap.size + 1) (by omega) n hm _ (by simp) bN.cell) (fun _ _ => trivial) (fun _ _ _ _ _ _ _ _ => trivial) (Below.refl _ _) (fun _ => rfl)
    (CkI w w.heap.size) (fun _ _ _ => False) (ckI_own w _ _ (by simp; omega)) (fun _ _ _ _ _ hs _ _ => hs)
    ⟨bO.alloc _, hB0⟩ ?a1 ?assign ?body ?done ?stop
  case assign =>
    intro l x W K hK
    gi_wp2
    exact hK
  case body =>
    rintro l pre x W ⟨hv, hB⟩ hlt
    have hc := hv.cell
    have hf := hv.frozen
    have hle := lb_le pre
    have hx : x.1.size ≤ 63 := by have := x.2.2; rw [bs_length] at this; exact this
    have HS := Lib.hid (congrArg List.length (lb_snoc pre x))
    gi_wp2
    have e : ((enc (pre.map lb)).length : Int) + (1 + (x.1.size : Int)) = ((enc ((pre ++ [x]).map lb)).length : Nat) := by
      have := HS.out
      rw [List.length_append, enc1_length, bs_length] at this
      omega
    rw [e]
    exact ⟨(KeepsOthers.setCell _ _ _).from _, trivial, hv.set _, hB.setCell (p := ⟨w.heap.size, 0, none⟩) (Nat.le_refl _) _⟩
  case done =>
    rintro D ys W hD hS ⟨hv, hB⟩ hK
    rw [hS] at hv
    have hc := hv.cell
    have hD' : w.heap.size ≤ D := by simp at hD; omega
    by_cases he : (enc (labs (bs n))).length = n.size
    · have hb : (((enc (labs (bs n))).length : Int) != (n.size : Int)) = false := bne_eq_false_iff_eq.2 (by omega)
      have HE : Hid (chkN (bs n) = 0) := Lib.hid (by rw [HP.out, if_pos he])
      clear he hS
      gi_wp2
      refine ⟨by simp, .inl ⟨_, _, rfl, run_takeDeferred hK, ?_⟩⟩
      refine ⟨_, results_tmp rfl _ _ _, by rw [HE.out]; rfl, hB.trans (belowK_b (w := w) (Nat.le_refl _) W D _ _ hD' hK rfl rfl)⟩
    · have hb : (((enc (labs (bs n))).length : Int) != (n.size : Int)) = true := bne_iff_ne.2 (by omega)
      have HE : Hid (chkN (bs n) = 4) := Lib.hid (by rw [HP.out, if_neg he])
      clear he hS
      gi_wp2
      refine ⟨by simp, .inl ⟨_, _, rfl, run_takeDeferred hK, ?_⟩⟩
      refine ⟨_, results_tmp rfl _ _ _, by rw [HE.out]; rfl, hB.trans (belowK_b (w := w) (Nat.le_refl _) W D _ _ hD' hK rfl rfl)⟩
  case stop =>
    rintro D c pre W _ _ h _
    exact h.elim

theorem nCheck_any (n : ByteArray) (w : World) (hs : n.size ≤ maxLen) :
    Calls Tryz.prog 112 #[.string n] w fun e w' => e = .returned (.int .i64 (chkN (bs n))) ∧ Below w.heap.size w w' := by
  by_cases h : 254 < n.size
  · exact nCheck_long n w hs h
  · exact nCheck_short n w (by omega)
end Go.Proofs.YtdpgcgaalamgkaaGreat
namespace Go.Proofs.YtdpgcgaalamgkaaGreat
set_option linter.unusedVariables false

theorem run_inv (x : List UInt8) : ∀ (k : Nat) (s : US), InvU x.length s → InvU x.length (runU x k s)
  | 0, s, h => h
  | k + 1, s, h => by
    by_cases hf : s.f = 0
    · by_cases he : (partU (x.drop s.p)).2 = 0
      · have hi := overU_inv h he
        by_cases ht : (overU x s (partU (x.drop s.p)).1).t = [0]
        · rw [runU_end hf he ht]; exact hi
        · cases hp : isPtr (overU x s (partU (x.drop s.p)).1).t
          · rw [runU_lab hf he ht hp]; exact run_inv x k _ (keepU_inv hi)
          · rw [runU_ptr hf he ht hp]; exact run_inv x k _ (followU_inv hi)
      · rw [runU_bad hf he]; exact failU_inv h _
    · rw [runU_stop hf]; exact h
end Go.Proofs.YtdpgcgaalamgkaaGreat
namespace Go.Proofs.YtdpgcgaalamgkaaGreat
set_option linter.unusedVariables false

section
variable {x t : List UInt8} {s : US} {k : Nat} {c d : UInt8}
theorem ru_nil (hf : s.f = 0) (h : x.drop s.p = []) : runU x (k + 1) s = failU s 8 := by
  have := runU_bad (x := x) (k := k) hf (by rw [h]; decide)
  rw [h] at this
  exact this
theorem part_zero (hc : c.toNat = 0) : partU (c :: t) = (1, 0) := by
  rw [partU_cons, if_neg (by omega), if_neg (by omega), if_neg (by omega), hc]
theorem part_lab (hc : c.toNat < 64) (hl : c.toNat ≤ t.length) : partU (c :: t) = (1 + c.toNat, 0) := by
  rw [partU_cons, if_neg (by omega), if_neg (by omega), if_neg (by omega)]
theorem part_ptr (hc : 192 ≤ c.toNat) : partU (c :: d :: t) = (2, 0) := by
  rw [partU_cons, if_pos hc, if_neg (by simp)]
theorem ru_zero (hf : s.f = 0) (h : x.drop s.p = c :: t) (hc : c.toNat = 0) : runU x (k + 1) s = overU x s 1 := by
  have hp := part_zero (t := t) hc
  rw [← h] at hp
  have := runU_end (x := x) (k := k) hf (by rw [hp]) (by
    rw [hp]
    show (x.drop s.p).take 1 = [0]
    rw [h, List.take_succ_cons, List.take_zero]
    congr 1
    exact UInt8.toNat_inj.1 hc)
  rw [hp] at this
  exact this
theorem ru_short (hf : s.f = 0) (h : x.drop s.p = c :: t) (hc : c.toNat < 64) (hl : t.length < c.toNat) : runU x (k + 1) s = failU s 8 := by
  have hp : partU (x.drop s.p) = (0, 8) := by rw [h, partU_cons, if_neg (by omega), if_neg (by omega), if_pos hl]
  have := runU_bad (x := x) (k := k) hf (by rw [hp]; decide)
  rw [hp] at this
  exact this
theorem ru_mid (hf : s.f = 0) (h : x.drop s.p = c :: t) (hc : 63 < c.toNat) (hc2 : c.toNat < 192) : runU x (k + 1) s = failU s 4 := by
  have hp : partU (x.drop s.p) = (0, 4) := by rw [h, partU_cons, if_neg (by omega), if_pos hc]
  have := runU_bad (x := x) (k := k) hf (by rw [hp]; decide)
  rw [hp] at this
  exact this
theorem ru_pshort (hf : s.f = 0) (h : x.drop s.p = [c]) (hc : 192 ≤ c.toNat) : runU x (k + 1) s = failU s 8 := by
  have hp : partU (x.drop s.p) = (0, 8) := by rw [h, partU_cons, if_pos hc, if_pos (by simp)]
  have := runU_bad (x := x) (k := k) hf (by rw [hp]; decide)
  rw [hp] at this
  exact this
theorem ru_lab (hf : s.f = 0) (h : x.drop s.p = c :: t) (h0 : 0 < c.toNat) (hc : c.toNat < 64) (hl : c.toNat ≤ t.length) : runU x (k + 1) s = runU x k (keepU (overU x s (1 + c.toNat))) := by
  have hp := part_lab hc hl
  rw [← h] at hp
  have hov : (overU x s (1 + c.toNat)).t = c :: t.take c.toNat := by
    show (x.drop s.p).take (1 + c.toNat) = _
    rw [h, Nat.add_comm, List.take_succ_cons]
  have := runU_lab (x := x) (k := k) hf (by rw [hp]) (by
    rw [hp]
    show (overU x s (1 + c.toNat)).t ≠ [0]
    rw [hov]
    intro e
    injection e with e
    rw [e] at h0
    exact absurd h0 (by decide)) (by
    rw [hp]
    show isPtr (overU x s (1 + c.toNat)).t = false
    rw [hov]
    unfold isPtr
    simp
    omega)
  rw [hp] at this
  exact this
theorem ref_ru_ptr (hf : s.f = 0) (h : x.drop s.p = c :: d :: t) (hc : 192 ≤ c.toNat) : runU x (k + 1) s = runU x k (followU (overU x s 2)) := by
  have hp := part_ptr (d := d) (t := t) hc
  rw [← h] at hp
  have hov : (overU x s 2).t = [c, d] := by
    show (x.drop s.p).take 2 = _
    rw [h]
    rfl
  have := runU_ptr (x := x) (k := k) hf (by rw [hp]) (by
    rw [hp]
    show (overU x s 2).t ≠ [0]
    rw [hov]
    simp) (by
    rw [hp]
    show isPtr (overU x s 2).t = true
    rw [hov]
    unfold isPtr
    simpa using hc)
  rw [hp] at this
  exact this
theorem to_two (h : x.drop s.p = c :: d :: t) : toU (overU x s 2).t = 256 * (c.toNat - 192) + d.toNat := by
  have hov : (overU x s 2).t = [c, d] := by
    show (x.drop s.p).take 2 = _
    rw [h]
    rfl
  rw [hov]
  rfl
end
end Go.Proofs.YtdpgcgaalamgkaaGreat
