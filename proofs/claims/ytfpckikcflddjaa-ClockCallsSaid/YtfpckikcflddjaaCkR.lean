/-
  The document's own calls of ticks and TTLs, and that clock's calls tell the same: the walks. Condition: the numbers fit their kinds, the row is no longer than Go's own limit.
-/
import Derived.Test.YtfpckikcflddjaaCkF
namespace Go.Proofs.Ytfpckikcflddjaa
open Go.RowKit

theorem rCheck_no {t : Int} (h : tickB t = false) : Tells 21 #[.int .i64 t] (.int .i64 2) := fun w => by
  rcases Int.lt_or_le t 0 with h0 | h0
  · clear h
    go_enter Try.func21, Try.ntmps21
    go_wp2
    go_ret
    exact ⟨rfl, rfl⟩
  · have h1 : 1099511627776 < t := by have := tick_not h; omega
    clear h
    go_enter Try.func21, Try.ntmps21
    go_wp2
    go_ret
    exact ⟨rfl, rfl⟩
theorem rCheck_yes {t : Int} (h : tickB t = true) : Tells 21 #[.int .i64 t] (.int .i64 0) := fun w => by
  obtain ⟨h0, h1⟩ := tick_of h
  clear h
  go_enter Try.func21, Try.ntmps21
  go_wp2
  go_ret
  exact ⟨rfl, rfl⟩

theorem rAdd_no {t n : Int} (h : tickB t = false ∨ n < 0) : Tells 17 #[.int .i64 t, .int .i64 n] (.tuple #[.int .i64 0, .int .i64 2]) := fun w => by
  rcases hb : tickB t with _ | _
  · have H1 := rCheck_no hb
    clear h hb
    go_enter Try.func17, Try.ntmps17
    go_wp2_with (go_at_call 21; (with_reducible refine (H1.go _).mono ?_); rintro e w' ⟨rfl, rfl⟩)
    go_ret2
    exact ⟨rfl, rfl⟩
  · have hn : n < 0 := by
      rcases h with h | h
      · rw [hb] at h; cases h
      · exact h
    have H1 := rCheck_yes hb
    clear h hb
    go_enter Try.func17, Try.ntmps17
    go_wp2_with (go_at_call 21; (with_reducible refine (H1.go _).mono ?_); rintro e w' ⟨rfl, rfl⟩)
    go_ret2
    exact ⟨rfl, rfl⟩
theorem rAdd_long {t n : Int} (h0 : 0 ≤ t) (h1 : t ≤ 1099511627776) (h2 : 0 ≤ n) (h3 : 1099511627776 - t < n) : Tells 17 #[.int .i64 t, .int .i64 n] (.tuple #[.int .i64 0, .int .i64 3]) := fun w => by
  have H1 := rCheck_yes (tick_yes h0 h1)
  go_enter Try.func17, Try.ntmps17
  go_wp2_with (go_at_call 21; (with_reducible refine (H1.go _).mono ?_); rintro e w' ⟨rfl, rfl⟩)
  go_ret2
  exact ⟨rfl, rfl⟩
theorem rAdd_yes {t n : Int} (h0 : 0 ≤ t) (h1 : t ≤ 1099511627776) (h2 : 0 ≤ n) (h3 : n ≤ 1099511627776 - t) : Tells 17 #[.int .i64 t, .int .i64 n] (.tuple #[.int .i64 (t + n), .int .i64 0]) := fun w => by
  have H1 := rCheck_yes (tick_yes h0 h1)
  go_enter Try.func17, Try.ntmps17
  go_wp2_with (go_at_call 21; (with_reducible refine (H1.go _).mono ?_); rintro e w' ⟨rfl, rfl⟩)
  go_ret2
  exact ⟨rfl, rfl⟩

theorem rAge_no {t n : Int} (h : tickB t = false ∨ tickB n = false ∨ n < t) : Tells 18 #[.int .i64 t, .int .i64 n] (.tuple #[.int .i64 0, .int .i64 2]) := fun w => by
  rcases hb : tickB t with _ | _
  · have H1 := rCheck_no hb
    clear h hb
    go_enter Try.func18, Try.ntmps18
    go_wp2_with (go_at_call 21; (first | (with_reducible refine (H1.go _).mono ?_)); rintro e w' ⟨rfl, rfl⟩)
    go_ret2
    exact ⟨rfl, rfl⟩
  · rcases hc : tickB n with _ | _
    · have H1 := rCheck_yes hb
      have H2 := rCheck_no hc
      clear h hb hc
      go_enter Try.func18, Try.ntmps18
      go_wp2_with (go_at_call 21; (first | (with_reducible refine (H1.go _).mono ?_) | (with_reducible refine (H2.go _).mono ?_)); rintro e w' ⟨rfl, rfl⟩)
      go_ret2
      exact ⟨rfl, rfl⟩
    · have hn : n < t := by
        rcases h with h | h | h
        · rw [hb] at h; cases h
        · rw [hc] at h; cases h
        · exact h
      have H1 := rCheck_yes hb
      have H2 := rCheck_yes hc
      clear h hb hc
      go_enter Try.func18, Try.ntmps18
      go_wp2_with (go_at_call 21; (first | (with_reducible refine (H1.go _).mono ?_) | (with_reducible refine (H2.go _).mono ?_)); rintro e w' ⟨rfl, rfl⟩)
      go_ret2
      exact ⟨rfl, rfl⟩
theorem rAge_yes {t n : Int} (h0 : 0 ≤ t) (h1 : t ≤ n) (h2 : n ≤ 1099511627776) : Tells 18 #[.int .i64 t, .int .i64 n] (.tuple #[.int .i64 (n - t), .int .i64 0]) := fun w => by
  have H1 := rCheck_yes (tick_yes h0 (by omega))
  have H2 := rCheck_yes (tick_yes (t := n) (by omega) h2)
  go_enter Try.func18, Try.ntmps18
  go_wp2_with (go_at_call 21; (first | (with_reducible refine (H1.go _).mono ?_) | (with_reducible refine (H2.go _).mono ?_)); rintro e w' ⟨rfl, rfl⟩)
  go_ret2
  exact ⟨rfl, rfl⟩

theorem rLeft_no {ttl t n : Int} (hl0 : 0 ≤ ttl) (hl1 : ttl ≤ 4294967295) (h : tickB t = false ∨ tickB n = false ∨ n < t ∨ ttl ≤ n - t) : Tells 19 #[.int .u32 ttl, .int .i64 t, .int .i64 n] (.tuple #[.int .u32 0, .bool false]) := fun w => by
  by_cases hb : tickB t = false ∨ tickB n = false ∨ n < t
  · have H1 := rAge_no hb
    clear h hb
    go_enter Try.func19, Try.ntmps19
    go_wp2_with (go_at_call 18; (with_reducible refine (H1.go _).mono ?_); rintro e w' ⟨rfl, rfl⟩)
    go_ret2
    exact ⟨rfl, rfl⟩
  · have ht : tickB t = true := by rcases hc : tickB t with _ | _ <;> simp_all
    have hn : tickB n = true := by rcases hc : tickB n with _ | _ <;> simp_all
    have h1 := tick_of ht
    have h2 := tick_of hn
    have h3 : ttl ≤ n - t := by
      rcases h with h | h | h | h
      · rw [ht] at h; cases h
      · rw [hn] at h; cases h
      · exact absurd (Or.inr (Or.inr h)) hb
      · exact h
    have h4 : t ≤ n := by omega
    have H1 := rAge_yes h1.1 h4 h2.2
    clear h hb ht hn
    go_enter Try.func19, Try.ntmps19
    go_wp2_with (go_at_call 18; (with_reducible refine (H1.go _).mono ?_); rintro e w' ⟨rfl, rfl⟩)
    go_ret2
    exact ⟨rfl, rfl⟩
theorem rLeft_yes {ttl t n : Int} (hl0 : 0 ≤ ttl) (hl1 : ttl ≤ 4294967295) (h0 : 0 ≤ t) (h1 : t ≤ n) (h2 : n ≤ 1099511627776) (h3 : n - t < ttl) : Tells 19 #[.int .u32 ttl, .int .i64 t, .int .i64 n] (.tuple #[.int .u32 (ttl - (n - t)), .bool true]) := fun w => by
  have H1 := rAge_yes h0 h1 h2
  have h4 : ¬ ttl ≤ n - t := by omega
  have h5 : 0 ≤ n - t := by omega
  have h6 : n - t ≤ 4294967295 := by omega
  go_enter Try.func19, Try.ntmps19
  go_wp2_with (go_at_call 18; (with_reducible refine (H1.go _).mono ?_); rintro e w' ⟨rfl, rfl⟩)
  go_ret2
  exact ⟨rfl, rfl⟩

theorem rClamp_any (v lo hi : Int) : Tells 22 #[.int .u32 v, .int .u32 lo, .int .u32 hi] (.int .u32 (clampI v lo hi)) := fun w => by
  rcases Int.lt_or_le v lo with h1 | h1
  · rcases Int.lt_or_le hi lo with h2 | h2
    all_goals
      go_enter Try.func22, Try.ntmps22
      go_wp2
      go_ret
      exact ⟨ret_int (by unfold clampI; omega), rfl⟩
  · rcases Int.lt_or_le hi v with h2 | h2
    all_goals
      go_enter Try.func22, Try.ntmps22
      go_wp2
      go_ret
      exact ⟨ret_int (by unfold clampI; omega), rfl⟩
theorem rPast_any (d n : Int) : Tells 23 #[.int .i64 d, .int .i64 n] (.bool (pastB d n)) := fun w => by
  go_enter Try.func23, Try.ntmps23
  go_wp2
  go_ret
  exact ⟨rfl, rfl⟩

theorem both_check (t : Int) : ∃ e, Tells 15 #[.int .i64 t] (.int .i64 e) ∧ Tells 21 #[.int .i64 t] (.int .i64 e) := by
  rcases h : tickB t with _ | _
  · exact ⟨2, Check_no h, rCheck_no h⟩
  · exact ⟨0, Check_yes h, rCheck_yes h⟩
theorem both_add (t n : Int) : ∃ a e, Tells 10 #[.int .i64 t, .int .i64 n] (.tuple #[.int .i64 a, .int .i64 e]) ∧ Tells 17 #[.int .i64 t, .int .i64 n] (.tuple #[.int .i64 a, .int .i64 e]) := by
  rcases h : tickB t with _ | _
  · exact ⟨0, 2, Add_no (Or.inl h), rAdd_no (Or.inl h)⟩
  · obtain ⟨h0, h1⟩ := tick_of h
    rcases Int.lt_or_le n 0 with hn | hn
    · exact ⟨0, 2, Add_no (Or.inr hn), rAdd_no (Or.inr hn)⟩
    · rcases Int.lt_or_le (1099511627776 - t) n with hx | hx
      · exact ⟨0, 3, Add_long h0 h1 hn hx, rAdd_long h0 h1 hn hx⟩
      · exact ⟨t + n, 0, Add_yes h0 h1 hn hx, rAdd_yes h0 h1 hn hx⟩
theorem both_age (t n : Int) : ∃ a e, Tells 11 #[.int .i64 t, .int .i64 n] (.tuple #[.int .i64 a, .int .i64 e]) ∧ Tells 18 #[.int .i64 t, .int .i64 n] (.tuple #[.int .i64 a, .int .i64 e]) := by
  by_cases h : tickB t = false ∨ tickB n = false ∨ n < t
  · exact ⟨0, 2, Age_no h, rAge_no h⟩
  · have ht : tickB t = true := by rcases hc : tickB t with _ | _ <;> simp_all
    have hn : tickB n = true := by rcases hc : tickB n with _ | _ <;> simp_all
    have h1 := tick_of ht
    have h2 := tick_of hn
    have h3 : t ≤ n := by have := fun x => h (Or.inr (Or.inr x)); omega
    exact ⟨n - t, 0, Age_yes h1.1 h3 h2.2, rAge_yes h1.1 h3 h2.2⟩
theorem both_left (ttl t n : Int) (h0 : 0 ≤ ttl) (h1 : ttl ≤ 4294967295) : ∃ a b, Tells 12 #[.int .u32 ttl, .int .i64 t, .int .i64 n] (.tuple #[.int .u32 a, .bool b]) ∧ Tells 19 #[.int .u32 ttl, .int .i64 t, .int .i64 n] (.tuple #[.int .u32 a, .bool b]) := by
  by_cases h : tickB t = false ∨ tickB n = false ∨ n < t ∨ ttl ≤ n - t
  · exact ⟨0, false, Left_no h0 h1 h, rLeft_no h0 h1 h⟩
  · have ht : tickB t = true := by rcases hc : tickB t with _ | _ <;> simp_all
    have hn : tickB n = true := by rcases hc : tickB n with _ | _ <;> simp_all
    have g1 := tick_of ht
    have g2 := tick_of hn
    have g3 : t ≤ n ∧ n - t < ttl := by have := fun x => h (Or.inr (Or.inr x)); omega
    exact ⟨ttl - (n - t), true, Left_yes h0 h1 g1.1 g3.1 g2.2 g3.2, rLeft_yes h0 h1 g1.1 g3.1 g2.2 g3.2⟩

theorem rfirst_none (A : Option Addr) (cap : Nat) (w : World) : Calls Try.prog 20 #[.slice A 0 cap] w fun e w' => e = .returned (.tuple #[.int .i64 0, .bool false]) ∧ w = w' := by
  go_enter Try.func20, Try.ntmps20
  go_wp2
  go_loop [4, 5] (fun a b => a = .int .i64 0 ∧ b = .int .i64 1) (fun _ _ => 0)
  case atStart => exact ⟨rfl, rfl⟩
  case round =>
    obtain ⟨rfl, rfl⟩ := hrel
    go_wp2
    go_ret2
    exact ⟨rfl, rfl⟩

def RFirstRel (L : List Int) (w : World) (a b : Value) (wr : World) : Prop := ∃ k p : Nat, k ≤ L.length ∧ a = .int .i64 p ∧ b = .int .i64 k ∧ Least L k p ∧ ∃ n, wr = w.drewN n
set_option maxHeartbeats 1000000 in
theorem rfirst_some (L : List Int) (g o cap : Nat) (w : World) (h0 : 0 < L.length) (h1 : L.length ≤ cap) (h2 : cap ≤ maxLen) (hc : ∀ j, j < L.length → w.cell? ⟨g, o + j, none⟩ = some (.int .i64 (nth L j))) :
    Calls Try.prog 20 #[.slice (some ⟨g, o, none⟩) L.length cap] w (FirstP L w) := by
  have HC := Lib.hid hc
  clear hc
  unfold maxLen at h2
  have HL : Hid (Least L 1 0) := Lib.hid ((Least.first h0).stay (Int.le_refl _))
  go_enter Try.func20, Try.ntmps20
  go_wp2
  go_loopw [4, 5] (fun a b wr => RFirstRel L w a b wr) (fun _ b _ => L.length - (intOf b).toNat)
  case atStart => exact ⟨1, 0, h0, rfl, rfl, HL.out, 0, rfl⟩
  case round =>
    obtain ⟨k, p, hk, rfl, rfl, hl, n, hn⟩ := hrel
    have HK := Lib.hid hl
    clear hl HL
    subst hn
    rcases Nat.lt_or_ge k L.length with hlt | hge
    · have hp : p < L.length := HK.out.1
      have hck := HC.out k hlt
      have hcp := HC.out p hp
      rcases Int.lt_or_le (nth L k) (nth L p) with hv | hv
      · have HN : Hid (Least L (k + 1) k) := Lib.hid (HK.out.move hlt hv)
        clear HK
        go_wp2
        go_quiet (fail)
        go_wp2
        go_roundw
        case rel => exact ⟨k + 1, k, by omega, rfl, by go_num, HN.out, _, rfl⟩
        case measure => simp [intOf]; omega
      · have HN : Hid (Least L (k + 1) p) := Lib.hid (HK.out.stay hv)
        clear HK
        go_wp2
        go_quiet (fail)
        go_wp2
        go_roundw
        case rel => exact ⟨k + 1, p, by omega, rfl, by go_num, HN.out, _, rfl⟩
        case measure => simp [intOf]; omega
    · obtain rfl : k = L.length := by omega
      go_wp2
      go_ret2
      exact ⟨p, HK.out, rfl, n, rfl⟩

theorem Least.one {L : List Int} {p q : Nat} (hp : Least L L.length p) (hq : Least L L.length q) : p = q := by
  have a := hp.2.1 q hq.1 hq.1
  have b := hq.2.1 p hp.1 hp.1
  rcases Nat.lt_trichotomy p q with h | h | h
  · have := hq.2.2 p h; omega
  · exact h
  · have := hp.2.2 q h; omega
/-- What First answers, of nothing too: by L alone. -/
theorem first_any (L : List Int) : ∃ (p : Nat) (b : Bool), (L.length = 0 → p = 0 ∧ b = false) ∧ (0 < L.length → Least L L.length p ∧ b = true) ∧ (∀ (v : Value) (w : World), IRow w v L →
    (Calls Try.prog 13 #[v] w fun e w' => e = .returned (.tuple #[.int .i64 p, .bool b]) ∧ ∃ n, w' = w.drewN n) ∧
    (Calls Try.prog 20 #[v] w fun e w' => e = .returned (.tuple #[.int .i64 p, .bool b]) ∧ ∃ n, w' = w.drewN n)) := by
  by_cases h0 : L.length = 0
  · refine ⟨0, false, fun _ => ⟨rfl, rfl⟩, fun h => absurd h (by omega), fun v w h => ?_⟩
    obtain ⟨A, cap, rfl, h1, h2, h4⟩ := h
    rw [h0]
    exact ⟨(first_none A cap w).mono fun e w' ⟨a, b⟩ => ⟨a, 0, b.symm⟩, (rfirst_none A cap w).mono fun e w' ⟨a, b⟩ => ⟨a, 0, b.symm⟩⟩
  · obtain ⟨p, hp⟩ : ∃ p, Least L L.length p := by
      have : ∀ k, k ≤ L.length → ∃ p, Least L k p := by
        intro k
        induction k with
        | zero => exact fun _ => ⟨0, Least.first (by omega)⟩
        | succ k ih =>
          intro hk
          obtain ⟨p, hp⟩ := ih (by omega)
          rcases Int.lt_or_le (nth L k) (nth L p) with hv | hv
          · exact ⟨k, hp.move (by omega) hv⟩
          · exact ⟨p, hp.stay hv⟩
      exact this _ (Nat.le_refl _)
    refine ⟨p, true, fun h => absurd h h0, fun _ => ⟨hp, rfl⟩, fun v w h => ?_⟩
    obtain ⟨A, cap, rfl, h1, h2, h4⟩ := h
    obtain ⟨g, o, rfl, hg, _⟩ := h4 0 (by omega)
    have hc : ∀ j, j < L.length → w.cell? ⟨g, o + j, none⟩ = some (.int .i64 (nth L j)) := fun j hj => by
      obtain ⟨g', o', e, _, hx⟩ := h4 j hj
      cases e
      exact hx
    refine ⟨(first_some L g o cap w (by omega) h1 h2 hc).mono ?_, (rfirst_some L g o cap w (by omega) h1 h2 hc).mono ?_⟩
    all_goals
      rintro e w' ⟨q, hq, rfl, hn⟩
      obtain rfl := Least.one hp hq
      exact ⟨rfl, hn⟩
theorem irow_of {w : World} {a : Addr} {len cap : Nat} {L : List Int} (hlen : len = L.length) (h1 : len ≤ cap) (h2 : cap ≤ maxLen) (hc : ∀ j, j < L.length → w.cell? (a.add j) = some (.int .i64 (nth L j))) : IRow w (.slice (some a) len cap) L := by
  subst hlen
  by_cases h0 : L.length = 0
  · exact ⟨some a, cap, rfl, h1, h2, fun j hj => by omega⟩
  · obtain ⟨b, off, spot⟩ := a
    have hspot : spot = none := by simpa [Addr.add] using World.cell?_spot (hc 0 (by omega))
    subst hspot
    refine ⟨_, cap, rfl, h1, h2, fun j hj => ?_⟩
    have := hc j hj
    have e : (⟨b, off, none⟩ : Addr).add j = ⟨b, off + j, none⟩ := by unfold Addr.add; split <;> simp_all
    rw [e] at this
    exact ⟨b, off, rfl, World.block_lt_of_cell? w _ this, this⟩
section
open Go.ChangeShapes Go.WideShapes Go.ChangeAt
variable {H : Type} {enc : TypeId × Value → H} {w : World} {base : Nat} {held : Bool}
theorem cellsI64 : Try.prog.cellsOf 2 = 1 := by kernel_rfl
theorem openI64s {v : Value} {d : DataW H} {p : List MemPlace} {b0 : Nat} (hv : Value.okWide Try.prog w .any b0 31 v) (h : DataW.Trod enc Try.prog w base (fun _ => true) held 31 v d p) : ∃ L, IRow w v L := by
  obtain ⟨s0, len, cap, rfl⟩ := okWide_slice Try.underlying31 hv
  obtain ⟨fuel, hf⟩ := h
  rcases open_ints Try.underlying31 Try.underlying2 cellsI64 hf with ⟨hcs, hx⟩ | ⟨a, len', cap', zs, hcs, _, hl, hm, hz, hx, hcell, hws⟩
  · simp [Value.cells] at hcs
    obtain ⟨rfl, rfl, rfl⟩ := hcs
    exact ⟨[], none, 0, rfl, Nat.le_refl _, Nat.zero_le _, fun j h => by simp at h⟩
  · simp [Value.cells] at hcs
    obtain ⟨rfl, rfl, rfl⟩ := hcs
    simp only [if_true] at hz
    have hlen : (zs.take len).length = len := by rw [List.length_take, hz]; omega
    refine ⟨zs.take len, irow_of hlen.symm hl hm fun j hj => ?_⟩
    rw [hlen] at hj
    have hjs : j < zs.length := by omega
    rw [hcell j hjs]
    unfold nth
    simp [List.getD_eq_getElem?_getD, hj]
end
end Go.Proofs.Ytfpckikcflddjaa
