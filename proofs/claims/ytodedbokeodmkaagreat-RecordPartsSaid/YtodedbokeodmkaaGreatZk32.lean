/-
  Addresses of octets, and their octets: the walks of addr.elder, newer, Four, Check, allOctets, octetsOf, Octets, Of. Conditions: as each theorem names them. Newer addresses of their parts: the walks of addr.newer. Conditions: as each theorem names them. Addresses of octets: the walk of addr.Of. Condition: the text is no longer than Go's own limit.
-/
import Derived.Test.YtodedbokeodmkaaGreatZk31
import Derived.Laws.ResultCell
import Derived.Laws.Rows
namespace Go.Proofs.YtodedbokeodmkaaGreat
open Go.RowKit
set_option linter.unusedVariables false

theorem nats_length (l : List UInt8) : (nats l).length = l.length := by simp [nats]
theorem nats_take (l : List UInt8) (n : Nat) : (nats l).take n = nats (l.take n) := by simp [nats, List.map_take]
theorem nats_drop (l : List UInt8) (n : Nat) : (nats l).drop n = nats (l.drop n) := by simp [nats, List.map_drop]
theorem nats_lt (l : List UInt8) : ∀ c ∈ nats l, c < 2 ^ 8 := by
  intro c hc
  obtain ⟨b, _, rfl⟩ := List.mem_map.1 hc
  exact b.toNat_lt
theorem pow256 {n : Nat} (h : n ≤ 8) : (2 ^ 8) ^ n ≤ 18446744073709551616 := Nat.le_trans (Nat.pow_le_pow_right (by decide) h) (by decide)
theorem infoA : (Tryz.prog.info? 26).map (·.size) = some 3 := by kernel_rfl
/-- What a function hands back that holds its address in a block. -/
theorem ret_ad {fn : Func} {p : Tmp} (h : fn.results = #[.cell p 26]) (tmps : Array Value) (w : World) (g : Nat) (a : Ad) (hp : tmps.getD p undef = .pointer (some ⟨g, 0, none⟩))
    (hg : Lies w g 26 #[.bool a.1, .int .u64 (a.2.1 : Int), .int .u64 (a.2.2 : Int)]) : (results fn tmps).run Tryz.prog w = .ok (av a) w :=
  results_cell_row h tmps w g _ _ _ _ hp hg Tryz.underlying26 rfl infoA
theorem ret_ad2 {fn : Func} {p u : Tmp} (h : fn.results = #[.cell p 26, .tmp u]) (tmps : Array Value) (w : World) (g : Nat) (a : Ad) (hp : tmps.getD p undef = .pointer (some ⟨g, 0, none⟩))
    (hg : Lies w g 26 #[.bool a.1, .int .u64 (a.2.1 : Int), .int .u64 (a.2.2 : Int)]) : (results fn tmps).run Tryz.prog w = .ok (.tuple #[av a, tmps.getD u undef]) w := by
  rw [results_cell_tmp h, hp]
  simp only [asAddr, Sem.run_pure, Result.andThen_ok]
  rw [run_loadVar_row w g _ _ _ _ _ hg Tryz.underlying26 rfl infoA]
  rfl

theorem elder_any (l : List UInt8) (v : Value) (w : World) (h : RowE B w v l) (hl : l.length ≤ 8) :
    Calls Tryz.prog 208 #[v] w fun e w' => e = .returned (av (elderA (nats l))) ∧ Below w.heap.size w w' := by
  have HJ := Lib.hid (fun wx hx => joinedB_any 8 (.inr rfl) l v wx hx (nats_lt l) (pow256 hl))
  have HR := Lib.hid (fun o => h.next (w' := w.alloc o) ((Below.refl _ _).alloc (Nat.le_refl _) o))
  obtain ⟨A, cap, rfl, _⟩ := h.shape
  clear h
  go_enter Tryz.func208, Tryz.ntmps208
  go_wp2_with (go_at_call 221; refine (HJ.out _ (HR.out _)).mono ?_; rintro e w' ⟨rfl, rfl⟩)
  refine bodyPost_ret (ret_ad rfl _ _ w.heap.size (elderA (nats l)) rfl (Lies.new _ _ _)) rfl ?_
  exact ⟨rfl, (Below.refl _ _).alloc (Nat.le_refl _) _⟩

theorem size1 (w : World) (o : Obj) : (w.alloc o).heap.size = w.heap.size + 1 := by simp
/-- A block that bears an address. -/
def AdB (w : World) (g : Nat) (six : Bool) (hi lo : Int) : Prop := Lies w g 26 #[.bool six, .int .u64 hi, .int .u64 lo]
theorem AdB.facts {w : World} {g : Nat} {six : Bool} {hi lo : Int} (h : AdB w g six hi lo) : (w.cell? ⟨g, 0, none⟩ = some (.bool six) ∧ w.cell? ⟨g, 1, none⟩ = some (.int .u64 hi) ∧ w.cell? ⟨g, 2, none⟩ = some (.int .u64 lo)) ∧ w.frozen? ⟨g, 0, none⟩ = false ∧ w.frozen? ⟨g, 1, none⟩ = false ∧ w.frozen? ⟨g, 2, none⟩ = false :=
  ⟨⟨Lies.cell h 0, Lies.cell h 1, Lies.cell h 2⟩, Lies.free h 0, Lies.free h 1, Lies.free h 2⟩
theorem AdB.put {w : World} {g : Nat} {six : Bool} {hi lo : Int} (h : AdB w g six hi lo) (six' : Bool) (hi' lo' : Int) : AdB (((w.setCell ⟨g, 0, none⟩ (.bool six')).setCell ⟨g, 1, none⟩ (.int .u64 hi')).setCell ⟨g, 2, none⟩ (.int .u64 lo')) g six' hi' lo' := by
  have := ((Lies.set h 0 (.bool six')).set 1 (.int .u64 hi')).set 2 (.int .u64 lo')
  simpa [AdB] using this
theorem AdB.of {w w' : World} (o : Obj) (hb : Below ((w.alloc (.cells #[.bool false, .int .u64 0, .int .u64 0] 26)).alloc o).heap.size ((w.alloc (.cells #[.bool false, .int .u64 0, .int .u64 0] 26)).alloc o) w') : AdB w' w.heap.size false 0 0 := ((Lies.new w _ _).alloc _).next hb
theorem below_dN {n : Nat} {w w' : World} (h : Below n w w') (k : Nat) : Below n w (w'.drewN k) := ⟨h.os, h.tape, h.output, h.size, h.block⟩
theorem put3 {n g : Nat} {w w' : World} (h : Below n w w') (hg : n ≤ g) (x y z : Value) : Below n w (((w'.setCell ⟨g, 0, none⟩ x).setCell ⟨g, 1, none⟩ y).setCell ⟨g, 2, none⟩ z) := ((h.setCell (p := ⟨g, 0, none⟩) hg x).setCell (p := ⟨g, 1, none⟩) hg y).setCell (p := ⟨g, 2, none⟩) hg z
theorem aCheck_any (six : Bool) (hi lo : Nat) (w : World) (h1 : hi < 18446744073709551616) (h2 : lo < 18446744073709551616) :
    Calls Tryz.prog 171 #[.agg #[.bool six, .int .u64 (hi : Int), .int .u64 (lo : Int)]] w fun e w' => e = .returned (.int .i64 (chkA (six, hi, lo))) ∧ Below w.heap.size w w' := by
  have hc : chkA (six, hi, lo) = if six = false ∧ (hi ≠ 0 ∨ 4294967295 < lo) then 2 else 0 := rfl
  rw [hc]
  clear hc
  cases six
  · by_cases h3 : hi = 0
    · subst h3
      by_cases h4 : 4294967295 < lo
      · rw [if_pos ⟨rfl, .inr h4⟩]
        go_enter Tryz.func171, Tryz.ntmps171
        go_wp2
        go_ret
        exact ⟨rfl, (Below.refl _ _).alloc (Nat.le_refl _) _⟩
      · rw [if_neg (by simp; omega)]
        go_enter Tryz.func171, Tryz.ntmps171
        go_wp2
        go_ret
        exact ⟨rfl, (Below.refl _ _).alloc (Nat.le_refl _) _⟩
    · rw [if_pos ⟨rfl, .inl h3⟩]
      go_enter Tryz.func171, Tryz.ntmps171
      go_wp2
      go_ret
      exact ⟨rfl, (Below.refl _ _).alloc (Nat.le_refl _) _⟩
  · rw [if_neg (by simp)]
    go_enter Tryz.func171, Tryz.ntmps171
    go_wp2
    go_ret
    exact ⟨rfl, (Below.refl _ _).alloc (Nat.le_refl _) _⟩

end Go.Proofs.YtodedbokeodmkaaGreat
namespace Go.Proofs.YtodedbokeodmkaaGreat
open Go.RowKit
set_option linter.unusedVariables false

set_option maxHeartbeats 1000000 in
theorem newerB16_any (l : List UInt8) (v : Value) (w : World) (h : RowE B w v l) (hl : l.length = 16) :
    Calls Tryz.prog 209 #[v] w fun e w' => e = .returned (av (newerA 256 (nats l))) ∧ Below w.heap.size w w' := by
  obtain ⟨g, off, cap, rfl, hat⟩ := h.at' (fun e => by rw [e] at hl; cases hl)
  have HA := Lib.hid (fun (wx : World) (e : wx.heap = (w.alloc (.cells #[.bool false, .int .u64 0, .int .u64 0] 26)).heap) => (hat.alloc _).heap e)
  have H1 := Lib.hid (fun wx hx => joinedB_at 8 8 rfl (.inr rfl) (l.take 8) (.slice (some ⟨g, off, none⟩) (8 : Nat) cap) wx hx (nats_lt _) (pow256 (by rw [List.length_take, hl]; decide)))
  have H2 := Lib.hid (fun wx hx => joinedB_at 8 8 rfl (.inr rfl) (l.drop 8) (.slice (some ⟨g, off + 8, none⟩) (8 : Nat) (cap - 8)) wx hx (nats_lt _) (pow256 (by rw [List.length_drop, hl]; decide)))
  have HX1 := Lib.hid (fun (wx : World) (hx : At B wx g off cap l) => hx.take (n := 8) (by omega))
  have HX2 : Hid (∀ (wx : World) (hx : At B wx g off cap l), RowE B wx (.slice (some ⟨g, off + 8, none⟩) (8 : Nat) (cap - 8)) (l.drop 8)) := Lib.hid (fun (wx : World) (hx : At B wx g off cap l) => by
    have := hx.drop (n := 8) (by omega)
    rw [hl] at this
    exact this)
  have hcap : 16 ≤ cap := by have := hat.le; omega
  have hfit : cap ≤ 9223372036854775807 := by have := hat.fit; unfold maxLen at this; exact this
  have HE : Hid (newerA 256 (nats l) = (true, jn 256 (nats (l.take 8)), jn 256 (nats (l.drop 8)))) := Lib.hid (by
    unfold newerA
    rw [nats_length, hl, nats_take, nats_drop])
  rw [HE.out, hl]
  have hc1 : ((8 : Nat) : Int) ≤ (cap : Int) := by omega
  clear h hat hl
  go_enter Tryz.func209, Tryz.ntmps209
  go_wp2
  go_quiet (fail)
  go_wp2
  go_region_with (first | (go_at_call 221; (with_reducible refine (H1.out _ (HX1.out _ (HA.out _ ?_))).mono ?_); exact rfl; rintro e w' ⟨rfl, rfl⟩) | (go_at_call 221; (with_reducible refine (H2.out _ (HX2.out _ (HA.out _ ?_))).mono ?_); exact rfl; rintro e w' ⟨rfl, rfl⟩))
  all_goals
    try go_wp2
    refine bodyPost_ret (ret_ad rfl _ _ w.heap.size (true, jn 256 (nats (l.take 8)), jn 256 (nats (l.drop 8))) rfl (AdB.put (six := false) (hi := 0) (lo := 0) (Lies.drewN (Lies.new w _ _) _) _ _ _)) rfl ?_
    exact ⟨rfl, put3 (below_dN ((Below.refl _ _).alloc (Nat.le_refl _) _) _) (Nat.le_refl _) _ _ _⟩

end Go.Proofs.YtodedbokeodmkaaGreat
namespace Go.Proofs.YtodedbokeodmkaaGreat
open Go.RowKit
set_option linter.unusedVariables false

theorem row_bytes {w : World} {g g' n cap : Nat} {s : ByteArray} (hg : g = g') (h : Row w g (bs s)) (hn : s.size = n) (h1 : s.size ≤ cap) (h2 : cap ≤ maxLen) : Hid (RowE B w (.slice (some ⟨g', 0, none⟩) n cap) (bs s)) := by
  subst hg
  have := (At.of_row h (by rw [bs_length]; exact h1) h2).row
  rw [bs_length, hn] at this
  exact Lib.hid this
set_option maxHeartbeats 1000000 in
theorem Of_any (s : ByteArray) (w : World) (hs : s.size ≤ maxLen) :
    Calls Tryz.prog 176 #[.string s] w fun e w' => e = .returned (.tuple #[av (ofA (bs s)).1, .int .i64 (ofA (bs s)).2]) ∧ Below w.heap.size w w' := by
  obtain ⟨w0, hw0⟩ : ∃ w0, w0 = w.alloc (.cells #[.bool false, .int .u64 0, .int .u64 0] 26) := ⟨_, rfl⟩
  have HB0 : Hid (Below w.heap.size w w0 ∧ w0.heap.size = w.heap.size + 1) := Lib.hid (by rw [hw0]; exact ⟨(Below.refl _ _).alloc (Nat.le_refl _) _, size1 _ _⟩)
  have HL0 : Hid (AdB w0 w.heap.size false 0 0) := Lib.hid (by rw [hw0]; exact Lies.new _ _ _)
  have HM := Lib.hid hs
  by_cases h4 : s.size = 4
  · have e : ofA (bs s) = (elderA (nats (bs s)), 0) := if_pos (by rw [bs_length]; exact h4)
    rw [e]
    have HE := Lib.hid (fun v wx hx => elder_any (bs s) v wx hx (by rw [bs_length]; omega))
    simp only [av, elderA] at HE
    go_enter Tryz.func176, Tryz.ntmps176
    go_wp2_with (first | (refine wpList_bytes bt _ rfl _ rfl s rfl HM.out ?_; intro cap w1 hrow hb1 hsz1 hc1 hc2; have HX := row_bytes (size1 w _) hrow h4 hc1 hc2; have hlz := (Lies.new w 26 #[.bool false, .int .u64 0, .int .u64 0]).next hb1; have HL1 : Hid (AdB w1 w.heap.size false 0 0) := Lib.hid hlz; have HB1 := Lib.hid hb1; clear hrow hb1 hlz hsz1) | (go_at_call 208; refine (HE.out _ _ ?_).mono ?_; exact HX.out; rintro e w2 ⟨rfl, hb2⟩; have HL2 : Hid (AdB w2 w.heap.size false 0 0) := Lib.hid (Lies.next HL1.out hb2); obtain ⟨⟨hc0, hc1, hc2⟩, hf0, hf1, hf2⟩ := HL2.out.facts; have HB2 := Lib.hid hb2; clear hb2))
    refine bodyPost_ret (ret_ad2 rfl _ _ w.heap.size (elderA (nats (bs s))) rfl (AdB.put HL2.out _ _ _)) rfl ?_
    have hb := next ((Below.refl w.heap.size w).alloc (Nat.le_refl _) _) HB1.out
    exact ⟨rfl, put3 (next hb HB2.out) (Nat.le_refl _) _ _ _⟩
  · by_cases h16 : s.size = 16
    · have e : ofA (bs s) = (newerA 256 (nats (bs s)), 0) := by unfold ofA; rw [if_neg (by rw [bs_length]; exact h4), if_pos (by rw [bs_length]; exact h16)]
      rw [e]
      have HE := Lib.hid (fun v wx hx => newerB16_any (bs s) v wx hx (by rw [bs_length]; exact h16))
      simp only [av, newerA] at HE
      clear h4
      go_enter Tryz.func176, Tryz.ntmps176
      go_wp2_with (first | (refine wpList_bytes bt _ rfl _ rfl s rfl HM.out ?_; intro cap w1 hrow hb1 hsz1 hc1 hc2; have HX := row_bytes (size1 w _) hrow h16 hc1 hc2; have hlz := (Lies.new w 26 #[.bool false, .int .u64 0, .int .u64 0]).next hb1; have HL1 : Hid (AdB w1 w.heap.size false 0 0) := Lib.hid hlz; have HB1 := Lib.hid hb1; clear hrow hb1 hlz hsz1) | (go_at_call 209; refine (HE.out _ _ ?_).mono ?_; exact HX.out; rintro e w2 ⟨rfl, hb2⟩; have HL2 : Hid (AdB w2 w.heap.size false 0 0) := Lib.hid (Lies.next HL1.out hb2); obtain ⟨⟨hc0, hc1, hc2⟩, hf0, hf1, hf2⟩ := HL2.out.facts; have HB2 := Lib.hid hb2; clear hb2))
      refine bodyPost_ret (ret_ad2 rfl _ _ w.heap.size (newerA 256 (nats (bs s))) rfl (AdB.put HL2.out _ _ _)) rfl ?_
      have hb := next ((Below.refl w.heap.size w).alloc (Nat.le_refl _) _) HB1.out
      exact ⟨rfl, put3 (next hb HB2.out) (Nat.le_refl _) _ _ _⟩
    · have e : ofA (bs s) = (noA, 2) := by unfold ofA; rw [if_neg (by rw [bs_length]; exact h4), if_neg (by rw [bs_length]; exact h16)]
      rw [e]
      have hb4 : ((s.size : Int) == 4) = false := by simp; omega
      have hb16 : ((s.size : Int) == 16) = false := by simp; omega
      go_enter Tryz.func176, Tryz.ntmps176
      go_wp2
      refine bodyPost_ret (ret_ad2 rfl _ _ w.heap.size noA rfl (Lies.new _ _ _)) rfl ?_
      exact ⟨rfl, (Below.refl _ _).alloc (Nat.le_refl _) _⟩
end Go.Proofs.YtodedbokeodmkaaGreat
