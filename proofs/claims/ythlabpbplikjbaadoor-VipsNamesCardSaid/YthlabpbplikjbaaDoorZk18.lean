/-
  Pools as plain data: who has which address; what Give, Drop, Keep answer: the mathematics that the contracts of layer 14 name. Conditions: as each theorem names them.
-/
import Derived.Test.YthlabpbplikjbaaDoorZk2
import Derived.Test.YthlabpbplikjbaaDoorZk17
namespace Go.Proofs.YthlabpbplikjbaaDoor
open Go.RowKit
set_option linter.unusedVariables false

/-- A host, as it was told, and its address. -/
abbrev Hd := ByteArray × Ad
/-- A pool: its range, and what of it is never given. -/
structure PoolD where
  r : Ad
  b : Int
  R : List (Ad × Int)
def keyH (n : ByteArray) : List UInt8 := foldN (bs n)
def PoolD.sz (p : PoolD) : Nat := sizeR p.r p.b
def PoolD.shut (p : PoolD) : List Bool := (List.range p.sz).map fun j => !okP p.r p.R j
def PoolD.room (p : PoolD) : Nat := freeR p.r p.b p.R
def findH (H : List Hd) (k : List UInt8) : Option Hd := H.find? fun x => decide (keyH x.1 = k)
def findA (H : List Hd) (a : Ad) : Option Hd := H.find? fun x => decide (x.2 = a)
/-- Is place j free? -/
def PoolD.freeJ (p : PoolD) (H : List Hd) (j : Nat) : Bool := okP p.r p.R j && (findA H (plR p.r j)).isNone
/-- The places as a host's probe meets them. -/
def PoolD.tour (p : PoolD) (k : List UInt8) : List Int := rnd (slotH k p.sz) p.sz
def PoolD.first (p : PoolD) (H : List Hd) (k : List UInt8) : Option Int := (p.tour k).find? fun j => p.freeJ H j.toNat
/-- Who is held behind Give; the address; the error. -/
def PoolD.put (p : PoolD) (H : List Hd) (n : ByteArray) (k : List UInt8) : List Hd × Ad × Nat :=
  match findH H k with
  | some x => (H, x.2, 0)
  | none => match p.first H k with
    | some j => (H ++ [(n, plR p.r j.toNat)], plR p.r j.toNat, 0)
    | none => (H, noA, 10)
def PoolD.give (p : PoolD) (H : List Hd) (n : ByteArray) : List Hd × Ad × Nat := if keyH n = [] then (H, noA, 2) else p.put H n (keyH n)
def dropH (H : List Hd) (k : List UInt8) : List Hd := H.filter fun x => decide (keyH x.1 ≠ k)

structure PoolD.Ok (p : PoolD) : Prop where
  fit : fitA p.r
  chk : chkR p.r p.b = 0
  fits : ∀ o ∈ p.R, fitA o.1
structure PoolD.Wf (p : PoolD) (H : List Hd) : Prop where
  key : ∀ x ∈ H, keyH x.1 ≠ []
  keys : H.Pairwise fun x y => keyH x.1 ≠ keyH y.1
  adrs : H.Pairwise fun x y => x.2 ≠ y.2
  plc : ∀ x ∈ H, ∃ j, j < p.sz ∧ x.2 = plR p.r j ∧ okP p.r p.R j = true

theorem plR_inj {r : Ad} {i j : Nat} (h : plR r i = plR r j) : i = j := by
  have : r.2.2 + i = r.2.2 + j := congrArg (fun a : Ad => a.2.2) h
  omega
theorem findH_some {H : List Hd} {k : List UInt8} {x : Hd} (h : findH H k = some x) : x ∈ H ∧ keyH x.1 = k := ⟨List.mem_of_find?_eq_some h, by simpa using List.find?_some h⟩
theorem findH_none {H : List Hd} {k : List UInt8} : findH H k = none ↔ ∀ x ∈ H, keyH x.1 ≠ k := by simp [findH]
theorem findA_some {H : List Hd} {a : Ad} {x : Hd} (h : findA H a = some x) : x ∈ H ∧ x.2 = a := ⟨List.mem_of_find?_eq_some h, by simpa using List.find?_some h⟩
theorem findA_none {H : List Hd} {a : Ad} : findA H a = none ↔ ∀ x ∈ H, x.2 ≠ a := by unfold findA; rw [List.find?_eq_none]; simp only [decide_eq_true_eq, ne_eq]
theorem mem_apart {α : Type} {R : α → α → Prop} (hs : ∀ a b, R a b → R b a) {l : List α} (h : l.Pairwise R) {x y : α} (hx : x ∈ l) (hy : y ∈ l) (hn : ¬ R x y) : x = y := by
  induction l with
  | nil => cases hx
  | cons a l ih =>
    obtain ⟨h1, h2⟩ := List.pairwise_cons.1 h
    rcases List.mem_cons.1 hx with e | hx'
    · rcases List.mem_cons.1 hy with e' | hy'
      · rw [e, e']
      · exact absurd (h1 y hy') (e ▸ hn)
    · rcases List.mem_cons.1 hy with e' | hy'
      · exact absurd (hs _ _ (h1 x hx')) (e' ▸ hn)
      · exact ih h2 hx' hy'
theorem PoolD.Wf.key_inj {p : PoolD} {H : List Hd} (h : p.Wf H) {x y : Hd} (hx : x ∈ H) (hy : y ∈ H) (e : keyH x.1 = keyH y.1) : x = y := mem_apart (fun _ _ => Ne.symm) h.keys hx hy (fun n => n e)
theorem PoolD.Wf.nil (p : PoolD) : p.Wf [] := ⟨fun _ h => (by cases h), List.Pairwise.nil, List.Pairwise.nil, fun _ h => (by cases h)⟩
theorem PoolD.Wf.filter {p : PoolD} {H : List Hd} (h : p.Wf H) (f : Hd → Bool) : p.Wf (H.filter f) :=
  ⟨fun x hx => h.key x (List.mem_filter.1 hx).1, h.keys.filter _, h.adrs.filter _, fun x hx => h.plc x (List.mem_filter.1 hx).1⟩
theorem mem_rnd {a b : Int} (h0 : 0 ≤ a) (h1 : a < b) {x : Int} : x ∈ rnd a b ↔ 0 ≤ x ∧ x < b := by
  unfold rnd upto
  simp only [List.mem_append, List.mem_map, List.mem_range]
  constructor
  · rintro (⟨i, hi, rfl⟩ | ⟨i, hi, rfl⟩) <;> omega
  · intro ⟨h2, h3⟩
    by_cases h : a ≤ x
    · exact .inl ⟨(x - a).toNat, by omega, by omega⟩
    · exact .inr ⟨x.toNat, by omega, by omega⟩
theorem PoolD.Ok.pos {p : PoolD} (h : p.Ok) : 1 ≤ p.sz ∧ p.sz ≤ 65536 := by
  obtain ⟨_, b', hb, _, _⟩ := chkR_yes h.chk
  unfold PoolD.sz
  rw [hb]
  exact size_pos (by rw [← hb]; exact h.chk)
theorem mem_tour {p : PoolD} (h : p.Ok) {k : List UInt8} {x : Int} : x ∈ p.tour k ↔ 0 ≤ x ∧ x < p.sz := by
  have h1 := h.pos
  obtain ⟨s0, s1⟩ := slotH_range k (k := (p.sz : Int)) (by omega)
  exact mem_rnd s0 s1
theorem PoolD.first_some {p : PoolD} (h : p.Ok) {H : List Hd} {k : List UInt8} {j : Int} (e : p.first H k = some j) : 0 ≤ j ∧ j < p.sz ∧ p.freeJ H j.toNat = true := by
  unfold PoolD.first at e
  have h1 := (mem_tour h).1 (List.mem_of_find?_eq_some e)
  have h2 := List.find?_some e
  exact ⟨h1.1, h1.2, h2⟩
theorem PoolD.first_none {p : PoolD} (h : p.Ok) {H : List Hd} {k : List UInt8} : p.first H k = none ↔ ∀ j, j < p.sz → p.freeJ H j = false := by
  unfold PoolD.first
  rw [List.find?_eq_none]
  constructor
  · intro e j hj
    have := e (j : Int) ((mem_tour h).2 ⟨by omega, by omega⟩)
    simpa using this
  · intro e x hx
    obtain ⟨h0, h1⟩ := (mem_tour h).1 hx
    rw [e x.toNat (by omega)]
    simp
theorem PoolD.Wf.add {p : PoolD} {H : List Hd} (h : p.Wf H) {n : ByteArray} {j : Nat} (hk : keyH n ≠ []) (hn : findH H (keyH n) = none) (hj : j < p.sz) (hf : p.freeJ H j = true) : p.Wf (H ++ [(n, plR p.r j)]) := by
  unfold PoolD.freeJ at hf
  rw [Bool.and_eq_true, Option.isNone_iff_eq_none, findA_none] at hf
  rw [findH_none] at hn
  refine ⟨fun x hx => ?_, ?_, ?_, fun x hx => ?_⟩
  · rcases List.mem_append.1 hx with h' | h'
    · exact h.key x h'
    · rw [List.mem_singleton] at h'; subst h'; exact hk
  · rw [List.pairwise_append]
    exact ⟨h.keys, by simp, fun x hx y hy => by rw [List.mem_singleton] at hy; subst hy; exact hn x hx⟩
  · rw [List.pairwise_append]
    exact ⟨h.adrs, by simp, fun x hx y hy => by rw [List.mem_singleton] at hy; subst hy; exact hf.2 x hx⟩
  · rcases List.mem_append.1 hx with h' | h'
    · exact h.plc x h'
    · rw [List.mem_singleton] at h'; subst h'; exact ⟨j, hj, rfl, hf.1⟩
/-- As many places are free as are not reserved, less those that are held. -/
theorem PoolD.Wf.count {p : PoolD} {H : List Hd} (h : p.Wf H) : p.room = H.length + ((List.range p.sz).filter (p.freeJ H)).length := by
  have e : ∀ j, okP p.r p.R j = true → (p.freeJ H j = !(findA H (plR p.r j)).isSome) := fun j hj => by
    unfold PoolD.freeJ
    rw [hj]
    cases findA H (plR p.r j) <;> rfl
  have h1 : ((List.range p.sz).filter (okP p.r p.R)).length = ((List.range p.sz).filter fun j => okP p.r p.R j && (findA H (plR p.r j)).isSome).length + ((List.range p.sz).filter (p.freeJ H)).length := by
    have key : ∀ l : List Nat, (l.filter (okP p.r p.R)).length = (l.filter fun j => okP p.r p.R j && (findA H (plR p.r j)).isSome).length + (l.filter (p.freeJ H)).length := by
      intro l
      induction l with
      | nil => rfl
      | cons j l ih =>
        by_cases hj : okP p.r p.R j = true
        · have ej := e j hj
          cases hf : (findA H (plR p.r j)).isSome
          · rw [hf] at ej
            rw [List.filter_cons_of_pos hj, List.filter_cons_of_neg (by rw [hj, hf]; decide), List.filter_cons_of_pos ej, List.length_cons, List.length_cons, ih]
            omega
          · rw [hf] at ej
            rw [List.filter_cons_of_pos hj, List.filter_cons_of_pos (by rw [hj, hf]; rfl), List.filter_cons_of_neg (by rw [ej]; decide), List.length_cons, List.length_cons, ih]
            omega
        · have hj' : okP p.r p.R j = false := by simpa using hj
          rw [List.filter_cons_of_neg hj, List.filter_cons_of_neg (by rw [hj', Bool.false_and]; decide), List.filter_cons_of_neg (by unfold PoolD.freeJ; rw [hj', Bool.false_and]; decide), ih]
    exact key _
  have h2 : ((List.range p.sz).filter fun j => okP p.r p.R j && (findA H (plR p.r j)).isSome).length = H.length := by
    have hp : ((List.range p.sz).filter fun j => okP p.r p.R j && (findA H (plR p.r j)).isSome).map (plR p.r) |>.Perm (H.map (·.2)) := by
      rw [List.perm_ext_iff_of_nodup]
      · intro a
        rw [List.mem_map, List.mem_map]
        constructor
        · rintro ⟨j, hj, rfl⟩
          rw [List.mem_filter, Bool.and_eq_true] at hj
          obtain ⟨x, hx⟩ := Option.isSome_iff_exists.1 hj.2.2
          exact ⟨x, (findA_some hx).1, (findA_some hx).2⟩
        · rintro ⟨x, hx, rfl⟩
          obtain ⟨j, hj, e1, e2⟩ := h.plc x hx
          refine ⟨j, ?_, e1.symm⟩
          rw [List.mem_filter, Bool.and_eq_true]
          refine ⟨List.mem_range.2 hj, e2, ?_⟩
          cases hf : findA H (plR p.r j)
          · exact absurd e1 (findA_none.1 hf x hx)
          · rfl
      · rw [List.nodup_iff_pairwise_ne, List.pairwise_map]
        exact (List.nodup_iff_pairwise_ne.1 (List.nodup_range.sublist List.filter_sublist)).imp fun hne e => hne (plR_inj e)
      · rw [List.nodup_iff_pairwise_ne, List.pairwise_map]
        exact h.adrs
    have := hp.length_eq
    rw [List.length_map, List.length_map] at this
    exact this
  unfold PoolD.room freeR
  show ((List.range p.sz).filter (okP p.r p.R)).length = _
  rw [h1, h2]
theorem PoolD.Wf.le {p : PoolD} {H : List Hd} (h : p.Wf H) : H.length ≤ p.room := by have := h.count; omega
theorem PoolD.Wf.full {p : PoolD} {H : List Hd} (h : p.Wf H) (ho : p.Ok) (k : List UInt8) : p.first H k = none ↔ H.length = p.room := by
  rw [PoolD.first_none ho, h.count]
  constructor
  · intro e
    have : (List.range p.sz).filter (p.freeJ H) = [] := by
      rw [List.filter_eq_nil_iff]
      intro j hj
      rw [e j (List.mem_range.1 hj)]
      decide
    rw [this]
    rfl
  · intro e j hj
    have hz : ((List.range p.sz).filter (p.freeJ H)).length = 0 := by omega
    rw [List.length_eq_zero_iff, List.filter_eq_nil_iff] at hz
    have := hz j (List.mem_range.2 hj)
    simpa using this
theorem find_pre {p : PoolD} {H : List Hd} {k : List UInt8} {pre : List Int} {x : Int} (hp : pre ++ [x] <+: p.tour k) (hn : ∀ y ∈ pre, p.freeJ H y.toNat = false) (hx : p.freeJ H x.toNat = true) : p.first H k = some x := by
  obtain ⟨t, ht⟩ := hp
  unfold PoolD.first
  rw [← ht, List.append_assoc, List.find?_append, List.find?_eq_none.2 (fun y hy => by rw [hn y hy]; decide)]
  simp [hx]
end Go.Proofs.YthlabpbplikjbaaDoor
