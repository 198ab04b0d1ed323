/-
  What the law AddrGroups asks: eight groups as a text, as octets, as an address: mathematics. Conditions: as each theorem names them. Nothing of any program is named here.
-/
import Derived.Test.YtjadghmanpkgoaaGreatDoorAdRvM
namespace Go.Proofs.YtjadghmanpkgoaaGreatDoor
open Go.RowKit
set_option linter.unusedVariables false

theorem octs_num_aux : ∀ (n : Nat) (l : List UInt8), l.length = n → octs (num l) n = l
  | 0, l, h => by rw [List.eq_nil_of_length_eq_zero h]; rfl
  | n + 1, l, h => by
    have hne : l ≠ [] := fun e => by rw [e] at h; cases h
    obtain ⟨d, c, rfl⟩ : ∃ d c, l = d ++ [c] := ⟨l.dropLast, l.getLast hne, (List.dropLast_concat_getLast hne).symm⟩
    have hd : d.length = n := by rw [List.length_append, List.length_singleton] at h; omega
    have hc := c.toNat_lt
    rw [num_snoc, octs_succ, show (num d * 256 + c.toNat) / 256 = num d by omega, octs_num_aux n d hd]
    congr 2
    apply UInt8.toNat_inj.1
    simp only [UInt8.toNat_ofNat']
    omega
theorem octs_num {l : List UInt8} {n : Nat} (h : l.length = n) : octs (num l) n = l := octs_num_aux n l h
/-- The groups' octets. -/
def bytesG (G : List Nat) : List UInt8 := G.flatMap fun v => [UInt8.ofNat (v / 256), UInt8.ofNat v]
theorem bytesG_len : ∀ G, (bytesG G).length = 2 * G.length
  | [] => rfl
  | v :: r => by
    have := bytesG_len r
    unfold bytesG at this ⊢
    simp only [List.flatMap_cons, List.length_append, List.length_cons, List.length_nil, this]
    omega
theorem pairs_bytesG : ∀ {G : List Nat}, (∀ c ∈ G, c < 65536) → pairs (bytesG G) = G
  | [], _ => rfl
  | v :: r, h => by
    have hv := h v List.mem_cons_self
    have := pairs_bytesG (G := r) fun c hc => h c (List.mem_cons_of_mem _ hc)
    unfold bytesG at this ⊢
    simp only [List.flatMap_cons, List.cons_append, List.nil_append, pairs, this, List.cons.injEq, and_true, UInt8.toNat_ofNat']
    omega
theorem bytesG_snoc (G : List Nat) (v : Nat) : bytesG (G ++ [v]) = bytesG G ++ [UInt8.ofNat (v / 256), UInt8.ofNat v] := by
  unfold bytesG
  simp
theorem jn_bytesG {G : List Nat} (h : ∀ c ∈ G, c < 65536) : jn 65536 G = num (bytesG G) := by
  conv => lhs; rw [← pairs_bytesG h]
  exact jn_pairs (by rw [bytesG_len]; omega)
theorem bytesG_append (a b : List Nat) : bytesG (a ++ b) = bytesG a ++ bytesG b := by
  unfold bytesG
  simp
section
variable {G : List Nat} (hl : G.length = 8) (h : ∀ c ∈ G, c < 65536)
include hl h
theorem grp_oct : octA (newerA 65536 G) = bytesG G := by
  have h1 : ∀ c ∈ G.take 4, c < 65536 := fun c hc => h c (List.mem_of_mem_take hc)
  have h2 : ∀ c ∈ G.drop 4, c < 65536 := fun c hc => h c (List.mem_of_mem_drop hc)
  show octs (jn 65536 (G.take (G.length / 2))) 8 ++ octs (jn 65536 (G.drop (G.length / 2))) 8 = _
  rw [hl, jn_bytesG h1, jn_bytesG h2, octs_num (by rw [bytesG_len, List.length_take]; omega), octs_num (by rw [bytesG_len, List.length_drop]; omega), ← bytesG_append, List.take_append_drop]
theorem grp_fit : fitA (newerA 65536 G) := by
  have j1 := jn_lt (m := 65536) (l := G.take 4) fun c hc => h c (List.mem_of_mem_take hc)
  have j2 := jn_lt (m := 65536) (l := G.drop 4) fun c hc => h c (List.mem_of_mem_drop hc)
  rw [List.length_take, hl] at j1
  rw [List.length_drop, hl] at j2
  unfold newerA
  rw [hl]
  exact ⟨j1, j2⟩
omit hl h in
theorem grp_chk : chkA (newerA 65536 G) = 0 := by simp [newerA, chkA]
theorem grp_back : grpA (newerA 65536 G) = G := by
  show pairs (allO (newerA 65536 G)) = G
  have : allO (newerA 65536 G) = octA (newerA 65536 G) := rfl
  rw [this, grp_oct hl h, pairs_bytesG h]
theorem grp_ocA : ocA (newerA 65536 G) = (bytesG G, 0) := by
  unfold ocA
  rw [if_neg (by rw [grp_chk]; decide), grp_oct hl h]
theorem grp_txA : txA (newerA 65536 G) = (text6 G, 0) := by
  unfold txA
  rw [if_neg (by rw [grp_chk]; decide), if_pos (show (newerA 65536 G).1 = true from rfl), grp_back hl h]
end
/-! ### How long -/
/-- So many octets, one more each. -/
def sumL (L : List (List UInt8)) : Nat := (L.map fun x => x.length + 1).sum
theorem sumL_app (a b : List (List UInt8)) : sumL (a ++ b) = sumL a + sumL b := by simp [sumL]
theorem join_sum : ∀ {L : List (List UInt8)} (c : UInt8), L ≠ [] → (Lib.join L [c]).length + 1 = sumL L
  | [x], c, _ => by simp [Lib.join_one, sumL]
  | x :: y :: r, c, _ => by
    have := join_sum (L := y :: r) c (by simp)
    rw [join2, List.length_append, List.length_cons]
    show _ = x.length + 1 + sumL (y :: r)
    omega
theorem join_le (L : List (List UInt8)) (c : UInt8) : (Lib.join L [c]).length ≤ sumL L := by
  cases L with
  | nil => exact Nat.zero_le _
  | cons x r =>
    have := join_sum (L := x :: r) c (by simp)
    omega
theorem sumL_zero : ∀ {G : List Nat}, (∀ c ∈ G, c = 0) → sumL (G.map hexT) = 2 * G.length
  | [], _ => rfl
  | v :: r, h => by
    have := sumL_zero (G := r) fun c hc => h c (List.mem_cons_of_mem _ hc)
    have hv := h v List.mem_cons_self
    subst hv
    show (hexT 0).length + 1 + sumL (r.map hexT) = _
    rw [this, List.length_cons, show (hexT 0).length = 1 by decide]
    omega
theorem text6_le {G : List Nat} (hl : G.length = 8) : (text6 G).length + 1 ≤ sumL (G.map hexT) := by
  have hne : G.map hexT ≠ [] := fun e => by have := congrArg List.length e; simp [hl] at this
  unfold text6
  rcases noughts_spec G with he | ⟨h1, h2, h3⟩
  · rw [if_pos he]
    unfold grpT
    rw [join_sum 58 hne]
    exact Nat.le_refl _
  · split
    · unfold grpT
      rw [join_sum 58 hne]
      exact Nat.le_refl _
    · generalize (noughts G).1 = f at *
      generalize (noughts G).2 = t at *
      have e : G = G.take f ++ ((G.drop f).take (t - f) ++ G.drop t) := by
        rw [show G.drop t = (G.drop f).drop (t - f) by rw [List.drop_drop]; congr 1; omega, List.take_append_drop, List.take_append_drop]
      have hz : ∀ c ∈ (G.drop f).take (t - f), c = 0 := fun c hc => by
        obtain ⟨j, hj, rfl⟩ := List.mem_iff_getElem.1 hc
        rw [List.length_take, List.length_drop] at hj
        have := h3 (f + j) (by omega) (by omega)
        rw [List.getElem_take, List.getElem_drop]
        rw [List.getElem?_eq_getElem (by omega)] at this
        exact Option.some.inj this
      have hm := sumL_zero hz
      rw [List.length_take, List.length_drop] at hm
      have hs : sumL (G.map hexT) = sumL ((G.take f).map hexT) + (sumL (((G.drop f).take (t - f)).map hexT) + sumL ((G.drop t).map hexT)) := by
        conv => lhs; rw [e]
        rw [List.map_append, List.map_append, sumL_app, sumL_app]
      have a1 := join_le ((G.take f).map hexT) 58
      have a2 := join_le ((G.drop t).map hexT) 58
      unfold grpT
      simp only [List.length_append, List.length_cons, List.length_nil]
      omega
/-! ### The law's text -/
/-- A group's text: all four digits, or no noughts ahead. -/
def gT (wide : Bool) (v : Nat) : List UInt8 := if wide then four v else strip (four v)
theorem hexd0 : hexd 0 = 48 := by decide
theorem hexd_nz : ∀ d : Fin 16, d.val ≠ 0 → hexd d.val ≠ 48 := by decide +kernel
theorem strip_hexT {v : Nat} (h : v < 65536) : strip (four v) = hexT v := by
  unfold four
  by_cases h1 : v < 16
  · rw [hexT_one v h1, show v / 4096 = 0 by omega, show v / 256 % 16 = 0 by omega, show v / 16 % 16 = 0 by omega, show v % 16 = v by omega, hexd0]
    simp [strip]
  · rw [hexT_step v (by omega) h]
    by_cases h2 : v < 256
    · have z := hexd_nz ⟨v / 16, by omega⟩ (by show v / 16 ≠ 0; omega)
      rw [hexT_one (v / 16) (by omega), show v / 4096 = 0 by omega, show v / 256 % 16 = 0 by omega, show v / 16 % 16 = v / 16 by omega, hexd0]
      simp [strip, z]
    · rw [hexT_step (v / 16) (by omega) (by omega)]
      by_cases h3 : v < 4096
      · have z := hexd_nz ⟨v / 256, by omega⟩ (by show v / 256 ≠ 0; omega)
        rw [hexT_one (v / 16 / 16) (by omega), show v / 4096 = 0 by omega, show v / 256 % 16 = v / 256 by omega, show v / 16 / 16 = v / 256 by omega, hexd0]
        simp [strip, z]
      · have z := hexd_nz ⟨v / 4096, by omega⟩ (by show v / 4096 ≠ 0; omega)
        rw [hexT_step (v / 16 / 16) (by omega) (by omega), hexT_one (v / 16 / 16 / 16) (by omega), show v / 16 / 16 / 16 = v / 4096 by omega, show v / 16 / 16 % 16 = v / 256 % 16 by omega]
        simp [strip, z]
theorem gT_ok {w : Bool} {v : Nat} (h : v < 65536) : hexO 4 (gT w v) = some v ∧ gT w v ≠ [] ∧ (58 : UInt8) ∉ gT w v ∧ (46 : UInt8) ∉ gT w v ∧ (hexT v).length ≤ (gT w v).length ∧ (gT w v).length ≤ 4 := by
  obtain ⟨_, _, h3, _⟩ := hexT_16 h
  cases w
  · obtain ⟨a, b, c, d⟩ := hexO_strip h
    refine ⟨a, b, c, d, ?_, ?_⟩
    · show (hexT v).length ≤ (strip (four v)).length
      rw [strip_hexT h]
      exact Nat.le_refl _
    · show (strip (four v)).length ≤ 4
      rw [strip_hexT h]
      exact h3
  · obtain ⟨b, c, d⟩ := four_ok h
    exact ⟨hexO_four h, b, c, d, h3, Nat.le_refl 4⟩
/-- The text of the first groups. -/
def accT (w : Bool) (G : List Nat) : Nat → List UInt8
  | 0 => []
  | k + 1 => (if 0 < k then accT w G k ++ [58] else accT w G k) ++ gT w (G.getD k 0)
theorem eightG {α : Type} {l : List α} (h : l.length = 8) : ∃ a b c d e f g i, l = [a, b, c, d, e, f, g, i] := by
  match l, h with
  | [a, b, c, d, e, f, g, i], _ => exact ⟨a, b, c, d, e, f, g, i, rfl⟩
theorem accT_join (w : Bool) {G : List Nat} (hl : G.length = 8) : accT w G 8 = Lib.join (G.map (gT w)) [58] := by
  obtain ⟨a, b, c, d, e, f, g, i, rfl⟩ := eightG hl
  simp only [accT, List.getD_cons_zero, List.getD_cons_succ, List.map_cons, List.map_nil, join2, Lib.join_one, Nat.lt_irrefl, if_false, Nat.zero_lt_succ, if_true, List.nil_append, List.append_assoc, List.cons_append]
theorem accT_len (w : Bool) {G : List Nat} (h : ∀ c ∈ G, c < 65536) : ∀ k, (accT w G k).length ≤ 5 * k
  | 0 => Nat.le_refl _
  | k + 1 => by
    have h1 := accT_len w h k
    have h2 : G.getD k 0 < 65536 := by
      rw [List.getD_eq_getElem?_getD]
      cases e : G[k]? with
      | none => decide
      | some x => exact h x (List.mem_of_getElem? e)
    have h3 := (gT_ok (w := w) h2).2.2.2.2.2
    unfold accT
    split <;> simp only [List.length_append, List.length_cons, List.length_nil] <;> omega
section
variable (w : Bool) {G : List Nat} (hl : G.length = 8) (h : ∀ c ∈ G, c < 65536)
include hl h
theorem accT_read : rdA (accT w G 8) = (newerA 65536 G, 0) := by
  rw [accT_join w hl]
  have he := eachO_map (f := hexO 4) (g := gT w) (e := id) (l := G) fun v hv => (gT_ok (h v hv)).1
  rw [List.map_id] at he
  exact read_parts (by rw [List.length_map, hl]) (fun x hx => by
    obtain ⟨v, hv, rfl⟩ := List.mem_map.1 hx
    obtain ⟨_, a, b, c, _⟩ := gT_ok (w := w) (h v hv)
    exact ⟨a, b, c⟩) he
theorem accT_long : (text6 G).length ≤ (accT w G 8).length := by
  have h1 := text6_le hl
  have h2 := join_sum (L := G.map (gT w)) 58 (fun e => by have := congrArg List.length e; simp [hl] at this)
  rw [accT_join w hl]
  have h3 : sumL (G.map hexT) ≤ sumL (G.map (gT w)) := by
    clear h1 h2 hl
    induction G with
    | nil => exact Nat.le_refl _
    | cons v r ih =>
      have h4 := (gT_ok (w := w) (h v List.mem_cons_self)).2.2.2.2.1
      have h5 := ih fun c hc => h c (List.mem_cons_of_mem _ hc)
      show (hexT v).length + 1 + sumL (r.map hexT) ≤ (gT w v).length + 1 + sumL (r.map (gT w))
      omega
  omega
end
end Go.Proofs.YtjadghmanpkgoaaGreatDoor
