/-
  Great letters in addresses' texts: what is read does not hang on them. Conditions: as each theorem names them. Nothing of any program is named here.
-/
import Derived.Test.YtpaocfjpnajonaaDoorAdMth
namespace Go.Proofs.YtpaocfjpnajonaaDoor
open Go.RowKit
set_option linter.unusedVariables false

/-- f leaves d alone, and turns nothing into it. -/
def Fixes (f : UInt8 → UInt8) (d : UInt8) : Prop := ∀ c, f c = d ↔ c = d
theorem pre_map {f : UInt8 → UInt8} : ∀ {sub s : List UInt8}, (∀ d ∈ sub, Fixes f d) → sub.isPrefixOf (s.map f) = sub.isPrefixOf s
  | [], s, _ => by simp
  | d :: r, [], _ => by simp
  | d :: r, c :: s, h => by
    have h1 := pre_map (sub := r) (s := s) fun x hx => h x (List.mem_cons_of_mem _ hx)
    have h2 := h d (List.mem_cons_self ..) c
    simp only [List.map_cons, List.isPrefixOf]
    rw [h1]
    congr 1
    by_cases e : c = d
    · subst e
      have := h2.2 rfl
      simp [this]
    · have : ¬ f c = d := fun e' => e (h2.1 e')
      rw [beq_eq_false_iff_ne.2 (fun e' => this e'.symm), beq_eq_false_iff_ne.2 (fun e' => e e'.symm)]
theorem index_map {f : UInt8 → UInt8} {sub : List UInt8} (h : ∀ d ∈ sub, Fixes f d) : ∀ (s : List UInt8), Lib.index (s.map f) sub = Lib.index s sub
  | [] => rfl
  | c :: s => by
    have h1 := index_map h s
    have h2 := pre_map (s := c :: s) h
    rw [List.map_cons] at h2 ⊢
    unfold Lib.index
    rw [h1, h2]
theorem has_map {f : UInt8 → UInt8} {sub : List UInt8} (h : ∀ d ∈ sub, Fixes f d) (s : List UInt8) : Lib.contains (s.map f) sub = Lib.contains s sub := by
  unfold Lib.contains
  rw [index_map h]
theorem lastOcc_map {f : UInt8 → UInt8} {sub : List UInt8} (h : ∀ d ∈ sub, Fixes f d) (s : List UInt8) : ∀ k, Lib.lastOcc (s.map f) sub k = Lib.lastOcc s sub k
  | 0 => rfl
  | k + 1 => by
    have h1 := lastOcc_map h s k
    unfold Lib.lastOcc Lib.occAt
    rw [h1, ← List.map_drop, pre_map h]
theorem lastK_map {f : UInt8 → UInt8} (h : Fixes f 58) (s : List UInt8) : lastK (s.map f) = lastK s := by
  unfold lastK Lib.lastIndex
  rw [List.length_map, lastOcc_map (fun d hd => by obtain rfl := List.mem_singleton.1 hd; exact h)]
theorem splitK_map {f : UInt8 → UInt8} {c : UInt8} (h : Fixes f c) : ∀ (k : Nat) (s : List UInt8), Lib.splitK [c] 0 k (s.map f) = (Lib.splitK [c] 0 k s).map (·.map f)
  | 0, s => rfl
  | k + 1, s => by
    have hi := index_map (sub := [c]) (fun d hd => by obtain rfl := List.mem_singleton.1 hd; exact h) s
    unfold Lib.splitK
    rw [hi]
    split
    · rfl
    · rw [← List.map_drop, splitK_map h k, ← List.map_take]
      rfl
theorem splitA_map {f : UInt8 → UInt8} {c : UInt8} (h : Fixes f c) (s : List UInt8) (n : Nat) : splitA (s.map f) c n = (splitA s c n).map (·.map f) := by
  unfold splitA Lib.splitN
  by_cases e : s = []
  · subst e; rfl
  · rw [if_neg e, if_neg (by simpa using e), List.length_map, splitK_map h]
theorem eachO_mapf {g : List UInt8 → Option Nat} {f : UInt8 → UInt8} (h : ∀ x, g (x.map f) = g x) : ∀ (L : List (List UInt8)), eachO g (L.map (·.map f)) = eachO g L
  | [] => rfl
  | x :: L => by
    have h1 := eachO_mapf h L
    rw [List.map_cons]
    unfold eachO
    rw [h1, h x]

/-- Great letters of digits by sixteen made small. -/
def lo1 (c : UInt8) : UInt8 := if 65 ≤ c.toNat ∧ c.toNat ≤ 70 then UInt8.ofNat (c.toNat + 32) else c
theorem lo_all : ∀ n : Fin 256, (lo1 (UInt8.ofNat n.val) = 58 ↔ UInt8.ofNat n.val = 58) ∧ (lo1 (UInt8.ofNat n.val) = 46 ↔ UInt8.ofNat n.val = 46) ∧ hxv (lo1 (UInt8.ofNat n.val)) = hxv (UInt8.ofNat n.val) ∧
    (48 ≤ (lo1 (UInt8.ofNat n.val)).toNat ∧ (lo1 (UInt8.ofNat n.val)).toNat ≤ 57 ↔ 48 ≤ (UInt8.ofNat n.val).toNat ∧ (UInt8.ofNat n.val).toNat ≤ 57) ∧ (48 ≤ (UInt8.ofNat n.val).toNat ∧ (UInt8.ofNat n.val).toNat ≤ 57 → lo1 (UInt8.ofNat n.val) = UInt8.ofNat n.val) := by decide +kernel
theorem u8_of (c : UInt8) : UInt8.ofNat c.toNat = c := by simp
theorem lo58 : Fixes lo1 58 := fun c => by have := (lo_all ⟨c.toNat, c.toNat_lt⟩).1; simp only [u8_of] at this; exact this
theorem lo46 : Fixes lo1 46 := fun c => by have := (lo_all ⟨c.toNat, c.toNat_lt⟩).2.1; simp only [u8_of] at this; exact this
theorem hxv_lo (c : UInt8) : hxv (lo1 c) = hxv c := by have := (lo_all ⟨c.toNat, c.toNat_lt⟩).2.2.1; simp only [u8_of] at this; exact this
theorem dig_lo (c : UInt8) : (48 ≤ (lo1 c).toNat ∧ (lo1 c).toNat ≤ 57 ↔ 48 ≤ c.toNat ∧ c.toNat ≤ 57) ∧ (48 ≤ c.toNat ∧ c.toNat ≤ 57 → lo1 c = c) := by have := (lo_all ⟨c.toNat, c.toNat_lt⟩).2.2.2; simp only [u8_of] at this; exact this
theorem hxF_lo : ∀ (s : List UInt8) (acc : Nat), hxF acc (s.map lo1) = hxF acc s
  | [], _ => rfl
  | c :: r, acc => by
    rw [List.map_cons]
    unfold hxF
    rw [hxv_lo]
    cases hxv c with
    | none => rfl
    | some d => exact hxF_lo r _
theorem hexO_lo (m : Nat) (s : List UInt8) : hexO m (s.map lo1) = hexO m s := by
  unfold hexO
  rw [List.length_map, hxF_lo]
  simp only [List.map_eq_nil_iff]
theorem parse_lo (M : Nat) : ∀ (s : List UInt8) (acc : Nat), Lib.parseUintM M acc (s.map lo1) = Lib.parseUintM M acc s
  | [], _ => rfl
  | c :: r, acc => by
    rw [List.map_cons]
    unfold Lib.parseUintM
    by_cases h : 48 ≤ c.toNat ∧ c.toNat ≤ 57
    · rw [(dig_lo c).2 h, parse_lo M r]
    · rw [if_neg h, if_neg (fun e => h ((dig_lo c).1.1 e))]
theorem parse_ok (M : Nat) : ∀ (s : List UInt8) (acc u : Nat), Lib.parseUintM M acc s = .ok u → s.map lo1 = s
  | [], _, _, _ => rfl
  | c :: r, acc, u, h => by
    unfold Lib.parseUintM at h
    split at h
    · rename_i hc
      split at h
      · cases h
      · split at h
        · cases h
        · rw [List.map_cons, (dig_lo c).2 hc, parse_ok M r _ u h]
    · cases h
theorem numO_lo (s : List UInt8) : numO (s.map lo1) = numO s := by
  unfold numO Lib.parseUintB
  rw [parse_lo]
  by_cases e : s = []
  · subst e; rfl
  · rw [if_neg e, if_neg (by simpa using e)]
    cases h : Lib.parseUintM (2 ^ 8 - 1) 0 s with
    | ok u =>
      rw [parse_ok _ s 0 u h]
    | _ => rfl
theorem eldO_lo (s : List UInt8) : eldO (s.map lo1) = eldO s := by
  unfold eldO ofNumO
  rw [splitA_map lo46, eachO_mapf numO_lo]
theorem lo_grp : ∀ d : Fin 16, lo1 (hexd d.val) = hexd d.val := by decide +kernel
theorem lo_hexF : ∀ (f v : Nat), (hexF f v).map lo1 = hexF f v
  | 0, _ => rfl
  | f + 1, v => by
    unfold hexF
    split
    · rename_i h
      have := lo_grp ⟨v, h⟩
      simp only at this
      simp [this]
    · have := lo_grp ⟨v % 16, Nat.mod_lt _ (by decide)⟩
      simp only at this
      rw [List.map_append, lo_hexF f, List.map_cons, List.map_nil, this]
theorem lo_join : ∀ (L : List (List UInt8)), (∀ x ∈ L, x.map lo1 = x) → (Lib.join L [58]).map lo1 = Lib.join L [58]
  | [], _ => rfl
  | [x], h => by rw [Lib.join_one]; exact h x (List.mem_cons_self ..)
  | x :: y :: r, h => by
    rw [join2, List.map_append, List.map_cons, h x (List.mem_cons_self ..), lo_join (y :: r) fun z hz => h z (List.mem_cons_of_mem _ hz)]
    rfl
theorem lo_grpT (g : List Nat) : (grpT g).map lo1 = grpT g := lo_join _ fun x hx => by
  obtain ⟨c, _, rfl⟩ := List.mem_map.1 hx
  exact lo_hexF 16 c
theorem withO_lo (s : List UInt8) : withO (s.map lo1) = (withO s).map (·.map lo1) := by
  unfold withO
  rw [lastK_map lo58, ← List.map_drop, has_map (fun d hd => by obtain rfl := List.mem_singleton.1 hd; exact lo46), eldO_lo]
  split
  · rfl
  · cases eldO (s.drop (lastK s)) with
    | none => rfl
    | some a => simp [lo_grpT]
theorem cut_lo (s : List UInt8) : Lib.cut (s.map lo1) [58, 58] = ((Lib.cut s [58, 58]).1.map lo1, (Lib.cut s [58, 58]).2.1.map lo1, (Lib.cut s [58, 58]).2.2) := by
  unfold Lib.cut
  rw [index_map (fun d hd => by
    have e : d = 58 := by simpa using hd
    rw [e]
    exact lo58)]
  split
  · simp
  · rfl
theorem newO_lo (s : List UInt8) : newO (s.map lo1) = newO s := by
  unfold newO
  rw [withO_lo]
  cases withO s with
  | none => rfl
  | some p =>
    simp only [Option.map_some]
    rw [cut_lo]
    simp only
    rw [splitA_map lo58, eachO_mapf (hexO_lo 4), splitA_map lo58, eachO_mapf (hexO_lo 4)]
theorem readO_lo (s : List UInt8) : readO (s.map lo1) = readO s := by
  unfold readO
  rw [has_map (fun d hd => by obtain rfl := List.mem_singleton.1 hd; exact lo58), newO_lo, eldO_lo]
/-- Small letters made great. -/
def up1 (c : UInt8) : UInt8 := if 97 ≤ c.toNat ∧ c.toNat ≤ 102 then UInt8.ofNat (c.toNat - 32) else c
theorem lo_up_all : ∀ n : Fin 256, lo1 (up1 (UInt8.ofNat n.val)) = lo1 (UInt8.ofNat n.val) := by decide +kernel
theorem lo_up (c : UInt8) : lo1 (up1 c) = lo1 c := by have := lo_up_all ⟨c.toNat, c.toNat_lt⟩; simp only [u8_of] at this; exact this
theorem rd_up (s : List UInt8) : rdA (s.map up1) = rdA s := by
  have h : readO (s.map up1) = readO s := by
    rw [← readO_lo (s.map up1), ← readO_lo s, List.map_map]
    congr 1
    exact List.map_congr_left fun c _ => lo_up c
  unfold rdA
  rw [h]
end Go.Proofs.YtpaocfjpnajonaaDoor
