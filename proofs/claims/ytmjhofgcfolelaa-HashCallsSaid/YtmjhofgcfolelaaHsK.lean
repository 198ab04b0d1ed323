/-
  HashCalls: rows of numbers, the document's own Probe, the kit's Same of rows: the walks. Conditions: as each theorem names them.
-/
import Derived.Test.YtmjhofgcfolelaaHsC
import Derived.Test.YtmjhofgcfolelaaCls
import Derived.Test.YtmjhofgcfolelaaPh
import Derived.Maps.OwnIn
import Derived.Maps.AppendAt
namespace Go.Proofs.Ytmjhofgcfolelaa
open Go.RowKit Go.Shelf
set_option linter.unusedVariables false
attribute [local go_sem] Oper.semAt_some

def vI (x : Int) : Value := .int .i64 x
/-- A row of numbers of the call's own. -/
def RowI (w : World) (base : Nat) (v : Value) (L : List Int) : Prop := w.ownsRow base 3 1 v L.length (L.map vI)
theorem infoIn : (Try.prog.info? 3).map (fun i => (i.zero, i.size, i.bytes)) = some (some (.int .i64 0), 1, 8) := by kernel_rfl
theorem RowI.nil (w : World) (base : Nat) : RowI w base (.slice none 0 0) [] := World.ownsRow_nil w base _ 1
theorem RowI.snoc {w : World} {base : Nat} {v : Value} {L : List Int} {x : Int} (h : w.ownsRow base 3 1 v (L.length + 1) (L.map vI ++ [vI x])) : RowI w base v (L ++ [x]) := by
  unfold RowI
  rw [List.length_append, List.map_append]
  exact h
theorem RowI.next {w w' : World} {base : Nat} {v : Value} {L : List Int} (h : RowI w base v L) (hb : Below w.heap.size w w') : RowI w' base v L := World.ownsRow.kept (row := none) h (below_to_grown hb) (by cases hv : v.ownBlock <;> simp)
theorem RowI.shape {w : World} {base : Nat} {v : Value} {L : List Int} (h : RowI w base v L) : (v = .slice none 0 0 ∧ L = []) ∨ ∃ g cap, v = .slice (some ⟨g, 0, none⟩) L.length cap := by
  rcases h.2 with ⟨h1, h2⟩ | ⟨g, cap, cur, h1, _⟩
  · exact .inl ⟨h1, List.eq_nil_of_length_eq_zero h2⟩
  · exact .inr ⟨g, cap, h1⟩
theorem RowI.cell {w : World} {base g n cap : Nat} {L : List Int} (h : RowI w base (.slice (some ⟨g, 0, none⟩) n cap) L) (j : Nat) (hj : j < L.length) : w.cell? ⟨g, j, none⟩ = some (.int .i64 L[j]) := by
  have hn : n = L.length := by
    rcases h.shape with ⟨e, _⟩ | ⟨g', cap', e⟩
    · cases e
    · injection e
  subst hn
  refine (World.ownsRow.cellAt h j (by omega)).trans ?_
  rw [List.getElem?_map, List.getElem?_eq_getElem hj]
  rfl

/-- The relation of Probe's loop. -/
def PbRel (L : List Int) (w : World) (v i : Value) (wr : World) : Prop := ∃ k : Nat, i = .int .i64 k ∧ k ≤ L.length ∧ RowI wr w.heap.size v (L.take k) ∧ Below w.heap.size w wr
theorem rnd_none {k : Int} (h : k < 1) (a : Int) (ha : a = 0) : rnd a k = [] := by
  subst ha
  unfold rnd
  rw [show (k - 0).toNat = 0 by omega]
  rfl

set_option maxRecDepth 100000 in
set_option maxHeartbeats 4000000 in
/-- The document's own Probe: all places as a row. -/
theorem rProbe_any (n : ByteArray) (k : Int) (w : World) (hn : n.size ≤ maxLen) (hk : k ≤ 400) :
    Calls Try.prog 19 #[.string n, .int .i64 k] w fun e w' => ∃ v, e = .returned v ∧ RowI w' w.heap.size v (rnd (slotH (bs n) k) k) ∧ Below w.heap.size w w' := by
  obtain ⟨i0, hi, hz0, hz1, hz2⟩ := info_parts infoIn
  have gS := Lib.hid (gRSlot hn (k := k) (by omega) rfl)
  obtain ⟨s, hs⟩ : ∃ s, slotH (bs n) k = s := ⟨_, rfl⟩
  have hL : (rnd s k).length = k.toNat := by
    rcases Int.lt_or_le k 1 with h | h
    · rw [rnd_none h s (by rw [← hs]; exact if_pos h)]; simp; omega
    · obtain ⟨a0, a1⟩ := slotH_range (bs n) h
      rw [← hs, rnd_len a0 (by omega)]
  have hget : ∀ j : Nat, (h : j < (rnd s k).length) → 0 ≤ s ∧ s < k ∧ (rnd s k)[j] = (s + j) % k := fun j h => by
    have hk1 : 1 ≤ k := by omega
    obtain ⟨a0, a1⟩ := slotH_range (bs n) hk1
    rw [hs] at a0 a1
    exact ⟨a0, a1, rnd_get a0 a1 j (by omega)⟩
  rw [hs] at gS ⊢
  obtain ⟨L, hLL⟩ : ∃ L, rnd s k = L := ⟨_, rfl⟩
  have HL := Lib.hid hL
  have HG := Lib.hid hget
  rw [hLL] at HL HG ⊢
  have HR0 : Hid (PbRel L w (.slice none 0 0) (.int .i64 0) w) := Lib.hid ⟨0, rfl, Nat.zero_le _, by rw [List.take_zero]; exact RowI.nil _ _, Below.refl _ _⟩
  clear hLL hL hget hs
  go_enter Try.func19, Try.ntmps19
  go_wp2
  go_loopw [5, 6] (fun v i wr => PbRel L w v i wr) (fun v i _ => L.length - (intOf i).toNat)
  case atStart => exact HR0.out
  case round =>
    clear HR0
    obtain ⟨j, rfl, hj, hrow, hb⟩ := hrel
    have hll := HL.out
    by_cases hlt : j < L.length
    · obtain ⟨a0, a1, hg⟩ := HG.out j hlt
      have i1 : (j : Int) < k := by omega
      have HG1 := Lib.hid hg
      have hk0 : ¬ k = 0 := by omega
      have hsum0 : 0 ≤ s + (j : Int) := by omega
      have hsum : s + (j : Int) ≤ 1000 := by omega
      have hT : Hid (L.take (j + 1) = L.take j ++ [L[j]]) := Lib.hid (List.take_succ_eq_append_getElem hlt)
      have hlen : (L.take j).length = j := by rw [List.length_take]; omega
      obtain ⟨X, hX⟩ : ∃ X, L[j] = X := ⟨_, rfl⟩
      rw [hX] at HG1 hT
      have hmod : (s + (j : Int)) % k = X := HG1.out.symm
      have hmod2 : (s + (j : Int)).tmod k = X := by rw [Int.tmod_eq_emod_of_nonneg hsum0, hmod]
      have HROW := Lib.hid hrow
      have HB := Lib.hid hb
      clear hg hX hrow hb hll
      go_wp2_with (first | (go_at_call 17; (with_reducible refine (gS.out.go _).mono ?_); rintro e w1 ⟨rfl, hb1⟩; have HB1 := Lib.hid (HB.out.trans (hb1.mono HB.out.size)); have HR1 := Lib.hid (HROW.out.next hb1); clear hb1) | (at_builtin; refine wpList_append_own_at _ rfl (.tmp 12) (.tmp 20) 32 rfl w.heap.size 3 i0 (.int .i64 0) 1 8 Try.underlying32 hi hz0 hz1 hz2 rfl (by decide) _ _ _ rfl (World.ownsRow.alloc HR1.out _) ⟨w1.heap.size, 0, none⟩ 1 1 [vI X] rfl rfl (cell_one_new _ _ _) (fun u hu => by rw [List.mem_singleton.1 hu]; rfl) (by unfold maxLen; omega) (by omega) (by have := HB1.out.size; simp; omega) ?_; intro v' w2 hown' hgrow _ _; have HV := Lib.hid (RowI.snoc hown'); have HG2 := Lib.hid hgrow; clear hown' hgrow) | fail)
      go_roundw
      case rel => exact ⟨j + 1, by go_num, hlt, by rw [hT.out]; exact HV.out, ((HB1.out.alloc HB1.out.size _).grown HG2.out (by have := HB1.out.size; simp; omega) fun b hb => (World.ownsRow.lt HR1.out b hb).1)⟩
      case measure => simp [intOf]; omega
    · have i1 : ¬ (j : Int) < k := by omega
      have e : L.take j = L := List.take_of_length_le (by omega)
      rw [e] at hrow
      go_wp2
      go_ret
      exact ⟨_, rfl, hrow, hb⟩

set_option maxHeartbeats 2000000 in
theorem Same_ints (w : World) (b1 b2 : Nat) (v1 v2 : Value) (L : List Int) (h1 : RowI w b1 v1 L) (h2 : RowI w b2 v2 L) (hL : L.length ≤ 1000) :
    Calls Try.prog 18 #[v1, v2] w fun e w' => e = .returned (.bool true) ∧ Below w.heap.size w w' := by
  rcases h1.shape with ⟨rfl, h⟩ | ⟨g, cap, rfl⟩
  · rcases h2.shape with ⟨rfl, _⟩ | ⟨g', cap', rfl⟩
    all_goals
      (try rw [h])
      go_enter Try.func18, Try.ntmps18
      go_wp2
      go_loopw [5] (fun i wr => i = .int .i64 0 ∧ Below w.heap.size w wr) (fun _ _ => 0)
      case atStart => exact ⟨rfl, Below.refl _ _⟩
      case round =>
        obtain ⟨rfl, hb⟩ := hrel
        go_wp2
        go_ret
        exact ⟨rfl, hb⟩
  · rcases h2.shape with ⟨rfl, h⟩ | ⟨g', cap', rfl⟩
    · (try rw [h])
      go_enter Try.func18, Try.ntmps18
      go_wp2
      go_loopw [5] (fun i wr => i = .int .i64 0 ∧ Below w.heap.size w wr) (fun _ _ => 0)
      case atStart => exact ⟨rfl, Below.refl _ _⟩
      case round =>
        obtain ⟨rfl, hb⟩ := hrel
        go_wp2
        go_ret
        exact ⟨rfl, hb⟩
    · have H1 := Lib.hid h1
      have H2 := Lib.hid h2
      clear h1 h2
      go_enter Try.func18, Try.ntmps18
      go_wp2
      go_loopw [5] (fun i wr => ∃ k : Nat, i = .int .i64 k ∧ k ≤ L.length ∧ Below w.heap.size w wr) (fun i _ => L.length - (intOf i).toNat)
      case atStart => exact ⟨0, rfl, Nat.zero_le _, Below.refl _ _⟩
      case round =>
        obtain ⟨k, rfl, hk, hb⟩ := hrel
        by_cases hlt : k < L.length
        · have hcx := (H1.out.next hb).cell k hlt
          have hcy := (H2.out.next hb).cell k hlt
          obtain ⟨x, hx⟩ : ∃ x, x = L[k] := ⟨_, rfl⟩
          rw [← hx] at hcx hcy
          have i1 : (k : Int) < L.length := by omega
          clear hx
          go_wp2_with fail
          go_quiet (fail)
          go_wp2
          go_roundw
          case rel => exact ⟨k + 1, by go_num, hlt, below_draws hb _⟩
          case measure => simp [intOf]; omega
        · have i1 : ¬ (k : Int) < L.length := by omega
          go_wp2
          go_ret
          exact ⟨rfl, hb⟩
end Go.Proofs.Ytmjhofgcfolelaa
