/-
  What an address' octets are: the walks of addr.joined, elder, newer, cut. Conditions: as each theorem names them.
-/
import Derived.Test.YtpmlldgjbmingaaGreatDoorZk2
import Derived.Test.YtpmlldgjbmingaaGreatDoorZk4
import Derived.Laws.BitsAllLaws
import Derived.Laws.Bits64
namespace Go.Proofs.YtpmlldgjbmingaaGreatDoor
open Go.RowKit
set_option linter.unusedVariables false

/-- A slice whose elements can be read. -/
def RowE {α : Type} (enc : α → Value) (w : World) (v : Value) (L : List α) : Prop :=
  (v = .slice none 0 0 ∧ L = []) ∨ ∃ g off cap, v = .slice (some ⟨g, off, none⟩) L.length cap ∧ g < w.heap.size ∧ L.length ≤ cap ∧ cap ≤ maxLen ∧ ∀ j (h : j < L.length), w.cell? ⟨g, off + j, none⟩ = some (enc L[j])
section
variable {α : Type} {enc : α → Value} {w w' : World} {v : Value} {L : List α}
theorem RowE.below {k : Nat} (h : RowE enc w v L) (hb : Below k w w') (hk : w.heap.size ≤ k) : RowE enc w' v L := by
  rcases h with h | ⟨g, off, cap, h1, h2, h3, h4, h5⟩
  · exact .inl h
  · exact .inr ⟨g, off, cap, h1, Nat.lt_of_lt_of_le h2 hb.size, h3, h4, fun j hj => (hb.cell (p := ⟨g, off + j, none⟩) (Nat.lt_of_lt_of_le h2 hk)).trans (h5 j hj)⟩
theorem RowE.next (h : RowE enc w v L) (hb : Below w.heap.size w w') : RowE enc w' v L := h.below hb (Nat.le_refl _)
theorem RowE.drew (h : RowE enc w v L) : RowE enc w.drew v L := h
theorem RowE.drewN (h : RowE enc w v L) (n : Nat) : RowE enc (w.drewN n) v L := h
theorem RowE.shape (h : RowE enc w v L) : ∃ A cap, v = .slice A L.length cap ∧ L.length ≤ cap ∧ cap ≤ maxLen := by
  rcases h with ⟨rfl, rfl⟩ | ⟨g, off, cap, h1, h2, h3, h4, h5⟩
  · exact ⟨none, 0, rfl, Nat.le_refl _, Nat.zero_le _⟩
  · exact ⟨_, cap, h1, h3, h4⟩
theorem RowE.of_own {base : Nat} {t : TypeId} (h : w.ownsRow base t 1 v L.length (L.map enc)) : RowE enc w v L := by
  rcases h.2 with ⟨rfl, hn⟩ | ⟨g, cap, cur, rfl, hb, hg, hnc, hcm, _⟩
  · exact .inl ⟨rfl, List.eq_nil_of_length_eq_zero hn⟩
  · refine .inr ⟨g, 0, cap, rfl, ?_, hnc, hcm, fun j hj => ?_⟩
    · rcases Nat.lt_or_ge g w.heap.size with hlt | hge
      · exact hlt
      · rw [Array.getElem?_eq_none hge] at hg; cases hg
    · have := World.ownsRow.cells h (g := g) rfl j (enc L[j]) (by rw [List.getElem?_map, List.getElem?_eq_getElem hj]; rfl)
      have e : (⟨g, 0, none⟩ : Addr).add j = ⟨g, 0 + j, none⟩ := by unfold Addr.add; split <;> simp_all
      rw [e] at this
      exact this
end

/-- Sixteen bits as a cell holds them. -/
def U16 (n : Nat) : Value := .int .u16 (n : Int)

theorem or64 (m a c : Nat) (j : Nat) (hm : m = 2 ^ j) (h : a * m + c < 18446744073709551616) (hc : c < m) : bits BinOp.or IntKind.u64 (IntKind.u64.wrap ((a : Int) * (m : Int))) (IntKind.u64.wrap c) = ((a * m + c : Nat) : Int) := by
  rw [IntKind.wrap_u64, IntKind.wrap_u64]
  have h2 : a * m < 18446744073709551616 := Nat.lt_of_le_of_lt (Nat.le_add_right _ _) h
  have h3 : c < 18446744073709551616 := Nat.lt_of_le_of_lt (Nat.le_add_left _ _) h
  have e : (a : Int) * (m : Int) % 18446744073709551616 = ((a * m : Nat) : Int) := by
    rw [← Int.natCast_mul]
    omega
  have e2 : (c : Int) % 18446744073709551616 = (c : Int) := by omega
  rw [e, e2, u64_or_nat (a * m) c h2 h3]
  clear e h2 h3 h
  have h1 := Nat.shiftLeft_add_eq_or_of_lt (show c < 2 ^ j by omega) a
  rw [Nat.shiftLeft_eq] at h1
  rw [hm, h1]

theorem jn_snoc (m : Nat) (l : List Nat) (c : Nat) : jn m (l ++ [c]) = jn m l * m + c := by simp [jn]
theorem jn_lt_aux (m : Nat) : ∀ (n : Nat) (l : List Nat), l.length = n → (∀ c ∈ l, c < m) → jn m l < m ^ n
  | 0, l, h, _ => by rw [List.eq_nil_of_length_eq_zero h]; simp [jn]
  | n + 1, l, h, hl => by
    have hne : l ≠ [] := fun e => by rw [e] at h; cases h
    have hc := hl _ (List.getLast_mem hne)
    have ih := jn_lt_aux m n l.dropLast (by rw [List.length_dropLast]; omega) fun c hc => hl c (List.dropLast_subset _ hc)
    rw [← List.dropLast_concat_getLast hne, jn_snoc, Nat.pow_succ]
    have : (jn m l.dropLast + 1) * m ≤ m ^ n * m := Nat.mul_le_mul_right _ ih
    rw [Nat.add_mul] at this
    omega
theorem jn_lt {m : Nat} {l : List Nat} (h : ∀ c ∈ l, c < m) : jn m l < m ^ l.length := jn_lt_aux m _ l rfl h
theorem jn_take {m : Nat} {l : List Nat} {k : Nat} (h : k < l.length) : jn m (l.take (k + 1)) = jn m (l.take k) * m + l[k] := by
  rw [List.take_succ_eq_append_getElem h, jn_snoc]
theorem jn_fit {m : Nat} {l : List Nat} {k : Nat} (hl : ∀ c ∈ l, c < m) (hm : 1 ≤ m) (hn : m ^ l.length ≤ 18446744073709551616) (h : k < l.length) : jn m (l.take k) * m + l[k] < 18446744073709551616 := by
  rw [← jn_take h]
  have h1 := jn_lt (m := m) (l := l.take (k + 1)) fun c hc => hl c (List.take_subset _ _ hc)
  rw [List.length_take, Nat.min_eq_left (by omega)] at h1
  exact Nat.lt_of_lt_of_le h1 (Nat.le_trans (Nat.pow_le_pow_right hm h) hn)

/-- The relation of joined's loop. -/
def JoRel (m : Nat) (l : List Nat) (w : World) (v i : Value) (wr : World) : Prop :=
  ∃ k : Nat, i = .int .i64 k ∧ k ≤ l.length ∧ v = .int .u64 (jn m (l.take k)) ∧ w = wr

set_option maxHeartbeats 1000000 in
theorem joinedB_any (j : Nat) (hj : j = 4 ∨ j = 8) (l : List UInt8) (v : Value) (w : World) (h : RowE B w v l) (hl : ∀ c ∈ nats l, c < 2 ^ j) (hn : (2 ^ j) ^ l.length ≤ 18446744073709551616) :
    Calls Tryz.prog 101 #[v, .int .i64 j] w fun e w' => e = .returned (.int .u64 (jn (2 ^ j) (nats l))) ∧ w = w' := by
  have HL : Hid ((nats l).length = l.length) := Lib.hid (by simp [nats])
  have HF := Lib.hid (fun (k : Nat) (hk : k < (nats l).length) => jn_fit hl (by exact Nat.one_le_two_pow) (by rw [HL.out]; exact hn) hk)
  have HC := Lib.hid (fun (k : Nat) (hk : k < (nats l).length) => hl _ (List.getElem_mem hk))
  have HT := Lib.hid (fun (k : Nat) (hk : k < (nats l).length) => jn_take (m := 2 ^ j) hk)
  have HE : Hid (jn (2 ^ j) ((nats l).take l.length) = jn (2 ^ j) (nats l)) := Lib.hid (by rw [List.take_of_length_le (by rw [HL.out]; exact Nat.le_refl _)])
  have HG : Hid (∀ k (hk : k < l.length), B l[k] = .int .u8 (((nats l)[k]'(by rw [HL.out]; exact hk) : Nat) : Int)) := Lib.hid (fun k hk => by simp [B, nats])
  clear hl hn
  have HR0 : Hid (JoRel (2 ^ j) (nats l) w (.int .u64 0) (.int .i64 0) w) := Lib.hid ⟨0, rfl, Nat.zero_le _, by simp [jn], rfl⟩
  rcases h with ⟨rfl, rfl⟩ | ⟨g, off, cap, rfl, hg, hcap, hcm, hcell⟩
  · go_enter Tryz.func101, Tryz.ntmps101
    go_wp2
    go_loopw [5, 10] (fun v i wr => JoRel (2 ^ j) [] w v i wr) (fun _ i _ => 0 - (intOf i).toNat)
    case atStart => exact HR0.out
    case round =>
      clear HR0
      obtain ⟨k, rfl, hk, rfl, rfl⟩ := hrel
      obtain rfl : k = 0 := by simpa using hk
      go_wp2
      go_ret
      exact ⟨rfl, rfl⟩
  · have HCell := Lib.hid hcell
    clear hcell
    unfold maxLen at hcm
    obtain ⟨M, hM⟩ : ∃ M, M = 2 ^ j := ⟨_, rfl⟩
    rcases hj with rfl | rfl
    all_goals
      go_enter Tryz.func101, Tryz.ntmps101
      go_wp2
      go_loopw [5, 10] (fun v i wr => JoRel M (nats l) w v i wr) (fun _ i _ => l.length - (intOf i).toNat)
      case atStart => rw [hM]; exact HR0.out
      case round =>
        clear HR0
        obtain ⟨k, rfl, hk, rfl, rfl⟩ := hrel
        rw [HL.out] at hk
        rcases Nat.lt_or_ge k l.length with hlt | hge
        · have hc := HCell.out k hlt
          rw [HG.out k hlt] at hc
          have HV := Lib.hid (or64 M _ _ _ hM (by rw [hM]; exact HF.out k (by rw [HL.out]; exact hlt)) (by rw [hM]; exact HC.out k (by rw [HL.out]; exact hlt)))
          rw [hM] at HV
          go_wp2
          go_roundw
          case rel => exact ⟨k + 1, by go_num, by rw [HL.out]; omega, by rw [hM, HT.out k (by rw [HL.out]; exact hlt)]; exact congrArg (Value.int .u64) HV.out, rfl⟩
          case measure => simp [intOf]; omega
        · obtain rfl : k = l.length := by omega
          rw [hM, HE.out]
          go_wp2
          go_ret
          exact ⟨rfl, rfl⟩

set_option maxHeartbeats 1000000 in
theorem joinedU_any (j : Nat) (hj : j = 16) (l : List Nat) (v : Value) (w : World) (h : RowE U16 w v l) (hl : ∀ c ∈ l, c < 2 ^ j) (hn : (2 ^ j) ^ l.length ≤ 18446744073709551616) :
    Calls Tryz.prog 137 #[v, .int .i64 j] w fun e w' => e = .returned (.int .u64 (jn (2 ^ j) (l))) ∧ w = w' := by
  have HL : Hid ((l).length = l.length) := Lib.hid rfl
  have HF := Lib.hid (fun (k : Nat) (hk : k < (l).length) => jn_fit hl (by exact Nat.one_le_two_pow) (by rw [HL.out]; exact hn) hk)
  have HC := Lib.hid (fun (k : Nat) (hk : k < (l).length) => hl _ (List.getElem_mem hk))
  have HT := Lib.hid (fun (k : Nat) (hk : k < (l).length) => jn_take (m := 2 ^ j) hk)
  have HE : Hid (jn (2 ^ j) ((l).take l.length) = jn (2 ^ j) (l)) := Lib.hid (by rw [List.take_of_length_le (by rw [HL.out]; exact Nat.le_refl _)])
  have HG : Hid (∀ k (hk : k < l.length), U16 l[k] = .int .u16 (((l)[k]'(by rw [HL.out]; exact hk) : Nat) : Int)) := Lib.hid (fun k hk => by simp [U16])
  clear hl hn
  have HR0 : Hid (JoRel (2 ^ j) (l) w (.int .u64 0) (.int .i64 0) w) := Lib.hid ⟨0, rfl, Nat.zero_le _, by simp [jn], rfl⟩
  rcases h with ⟨rfl, rfl⟩ | ⟨g, off, cap, rfl, hg, hcap, hcm, hcell⟩
  · go_enter Tryz.func137, Tryz.ntmps137
    go_wp2
    go_loopw [5, 10] (fun v i wr => JoRel (2 ^ j) [] w v i wr) (fun _ i _ => 0 - (intOf i).toNat)
    case atStart => exact HR0.out
    case round =>
      clear HR0
      obtain ⟨k, rfl, hk, rfl, rfl⟩ := hrel
      obtain rfl : k = 0 := by simpa using hk
      go_wp2
      go_ret
      exact ⟨rfl, rfl⟩
  · have HCell := Lib.hid hcell
    clear hcell
    unfold maxLen at hcm
    obtain ⟨M, hM⟩ : ∃ M, M = 2 ^ j := ⟨_, rfl⟩
    rcases hj with rfl
    all_goals
      go_enter Tryz.func137, Tryz.ntmps137
      go_wp2
      go_loopw [5, 10] (fun v i wr => JoRel M (l) w v i wr) (fun _ i _ => l.length - (intOf i).toNat)
      case atStart => rw [hM]; exact HR0.out
      case round =>
        clear HR0
        obtain ⟨k, rfl, hk, rfl, rfl⟩ := hrel
        rw [HL.out] at hk
        rcases Nat.lt_or_ge k l.length with hlt | hge
        · have hc := HCell.out k hlt
          rw [HG.out k hlt] at hc
          have HV := Lib.hid (or64 M _ _ _ hM (by rw [hM]; exact HF.out k (by rw [HL.out]; exact hlt)) (by rw [hM]; exact HC.out k (by rw [HL.out]; exact hlt)))
          rw [hM] at HV
          go_wp2
          go_roundw
          case rel => exact ⟨k + 1, by go_num, by rw [HL.out]; omega, by rw [hM, HT.out k (by rw [HL.out]; exact hlt)]; exact congrArg (Value.int .u64) HV.out, rfl⟩
          case measure => simp [intOf]; omega
        · obtain rfl : k = l.length := by omega
          rw [hM, HE.out]
          go_wp2
          go_ret
          exact ⟨rfl, rfl⟩
theorem joinedB_at (J : Int) (j : Nat) (hJ : J = (j : Int)) (hj : j = 4 ∨ j = 8) (l : List UInt8) (v : Value) (w : World) (h : RowE B w v l) (hl : ∀ c ∈ nats l, c < 2 ^ j) (hn : (2 ^ j) ^ l.length ≤ 18446744073709551616) :
    Calls Tryz.prog 101 #[v, .int .i64 J] w fun e w' => e = .returned (.int .u64 (jn (2 ^ j) (nats l))) ∧ w = w' := by
  subst hJ
  exact joinedB_any j hj l v w h hl hn

theorem joinedU_at (J : Int) (j : Nat) (hJ : J = (j : Int)) (hj : j = 16) (l : List Nat) (v : Value) (w : World) (h : RowE U16 w v l) (hl : ∀ c ∈ l, c < 2 ^ j) (hn : (2 ^ j) ^ l.length ≤ 18446744073709551616) :
    Calls Tryz.prog 137 #[v, .int .i64 J] w fun e w' => e = .returned (.int .u64 (jn (2 ^ j) (l))) ∧ w = w' := by
  subst hJ
  exact joinedU_any j hj l v w h hl hn
end Go.Proofs.YtpmlldgjbmingaaGreatDoor
