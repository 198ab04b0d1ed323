/-
  Rows that can be read, cut in parts; numbers' octets. Conditions: as each theorem names them. Addresses of octets, and their octets: the walks of addr.elder, newer, Four, Check, allOctets, octetsOf, Octets, Of. Conditions: as each theorem names them. Newer addresses of their parts: the walks of addr.newer. Conditions: as each theorem names them.
-/
import Derived.Test.YtpmlldgjbmingaaGreatDoorZk5
import Derived.Laws.ResultCell
import Derived.Laws.Rows
namespace Go.Proofs.YtpmlldgjbmingaaGreatDoor
open Go.RowKit
set_option linter.unusedVariables false

section
variable {α : Type} {enc : α → Value} {w w' : World} {v : Value} {L : List α}
theorem add_offA (g off n : Nat) : (⟨g, off, none⟩ : Addr).add n = ⟨g, off + n, none⟩ := by unfold Addr.add; split <;> simp_all
/-- A row in a block, as it lies: what a part of it is. -/
structure At (enc : α → Value) (w : World) (g off cap : Nat) (L : List α) : Prop where
  lt : g < w.heap.size
  le : L.length ≤ cap
  fit : cap ≤ maxLen
  cell : ∀ j (h : j < L.length), w.cell? ⟨g, off + j, none⟩ = some (enc L[j])
theorem At.row {g off cap : Nat} (h : At enc w g off cap L) : RowE enc w (.slice (some ⟨g, off, none⟩) L.length cap) L := .inr ⟨g, off, cap, rfl, h.lt, h.le, h.fit, h.cell⟩
theorem At.take {g off cap : Nat} (h : At enc w g off cap L) {n : Nat} (hn : n ≤ L.length) : RowE enc w (.slice (some ⟨g, off, none⟩) n cap) (L.take n) := by
  have hl : (L.take n).length = n := by rw [List.length_take]; omega
  refine .inr ⟨g, off, cap, by rw [hl], h.lt, by rw [hl]; have := h.le; omega, h.fit, fun j hj => ?_⟩
  rw [hl] at hj
  rw [h.cell j (by omega), List.getElem_take]
theorem At.drop {g off cap : Nat} (h : At enc w g off cap L) {n : Nat} (hn : n ≤ L.length) : RowE enc w (.slice (some ⟨g, off + n, none⟩) (L.length - n) (cap - n)) (L.drop n) := by
  have hl : (L.drop n).length = L.length - n := List.length_drop
  refine .inr ⟨g, off + n, cap - n, by rw [hl], h.lt, by rw [hl]; have := h.le; omega, by have := h.fit; omega, fun j hj => ?_⟩
  rw [hl] at hj
  rw [Nat.add_assoc, h.cell (n + j) (by omega), List.getElem_drop]
theorem At.mid {g off cap : Nat} (h : At enc w g off cap L) {n m : Nat} (hn : n ≤ m) (hm : m ≤ L.length) : RowE enc w (.slice (some ⟨g, off + n, none⟩) (m - n) (cap - n)) ((L.drop n).take (m - n)) := by
  have hl : ((L.drop n).take (m - n)).length = m - n := by rw [List.length_take, List.length_drop]; omega
  refine .inr ⟨g, off + n, cap - n, by rw [hl], h.lt, by rw [hl]; have := h.le; omega, by have := h.fit; omega, fun j hj => ?_⟩
  rw [hl] at hj
  rw [Nat.add_assoc, h.cell (n + j) (by omega), List.getElem_take, List.getElem_drop]
theorem RowE.at' (h : RowE enc w v L) (hL : L ≠ []) : ∃ g off cap, v = .slice (some ⟨g, off, none⟩) L.length cap ∧ At enc w g off cap L := by
  rcases h with ⟨rfl, rfl⟩ | ⟨g, off, cap, h1, h2, h3, h4, h5⟩
  · exact absurd rfl hL
  · exact ⟨g, off, cap, h1, h2, h3, h4, h5⟩
theorem At.next {g off cap : Nat} (h : At enc w g off cap L) (hb : Below w.heap.size w w') : At enc w' g off cap L :=
  ⟨Nat.lt_of_lt_of_le h.lt hb.size, h.le, h.fit, fun j hj => (hb.cell (p := ⟨g, off + j, none⟩) h.lt).trans (h.cell j hj)⟩
theorem At.drewN {g off cap : Nat} (h : At enc w g off cap L) (n : Nat) : At enc (w.drewN n) g off cap L := ⟨h.lt, h.le, h.fit, h.cell⟩
theorem At.heap {g off cap : Nat} (h : At enc w g off cap L) (e : w'.heap = w.heap) : At enc w' g off cap L :=
  ⟨by rw [e]; exact h.lt, h.le, h.fit, fun j hj => (World.cell?_of_block (w := w) (w' := w') (by rw [e])).trans (h.cell j hj)⟩
theorem At.alloc {g off cap : Nat} (h : At enc w g off cap L) (o : Obj) : At enc (w.alloc o) g off cap L := h.next ((Below.refl _ _).alloc (Nat.le_refl _) o)
theorem At.of_own {base : Nat} {t : TypeId} {g cap : Nat} (h : w.ownsRow base t 1 (.slice (some ⟨g, 0, none⟩) L.length cap) L.length (L.map enc)) : At enc w g 0 cap L := by
  rcases h.2 with ⟨h', _⟩ | ⟨g', cap', cur, h', hb, hg, hnc, hcm, _⟩
  · simp at h'
  · simp only [Value.slice.injEq, Option.some.injEq, Addr.mk.injEq, and_true, true_and] at h'
    obtain ⟨rfl, rfl⟩ := h'
    refine ⟨?_, hnc, hcm, fun j hj => ?_⟩
    · rcases Nat.lt_or_ge g w.heap.size with hlt | hge
      · exact hlt
      · rw [Array.getElem?_eq_none hge] at hg; cases hg
    · have := World.ownsRow.cells h (g := g) rfl j (enc L[j]) (by rw [List.getElem?_map, List.getElem?_eq_getElem hj]; rfl)
      rw [add_offA] at this
      exact this
theorem At.of_lies {g : Nat} {t : TypeId} {cs : Array Value} (h : Lies w g t cs) (hl : cs.toList = L.map enc) (hm : L.length ≤ maxLen) : At enc w g 0 L.length L :=
  ⟨h.lt, Nat.le_refl _, hm, fun j hj => by rw [Nat.zero_add, h.cell j, ← Array.getElem?_toList, hl, List.getElem?_map, List.getElem?_eq_getElem hj]; rfl⟩
end

/-! ### cut -/
theorem made_ownA {w1 : World} {base n : Nat} {tb : TypeId} {v : Value} (h : w1.ownsRow base tb 1 v n (madeCells (Value.int .u8 0).cells (n * 1)).toList) : w1.ownsRow base tb 1 v n ((List.replicate n (0 : UInt8)).map B) := by
  have e : (madeCells (Value.int .u8 0).cells (n * 1)).toList = (List.replicate n (0 : UInt8)).map B := by
    rw [Nat.mul_one, List.map_replicate]
    exact toList_madeCells_one _ _
  rw [← e]
  exact h
theorem shr8A (v m : Nat) : (v : Int) / 2 ^ (8 * m) % 256 = ((UInt8.ofNat (v / 256 ^ m)).toNat : Int) := by
  have e : (2 : Int) ^ (8 * m) = ((256 ^ m : Nat) : Int) := by
    rw [show (256 : Nat) = 2 ^ 8 by decide, ← Nat.pow_mul]
    exact (Int.natCast_pow 2 (8 * m)).symm
  rw [ofNat_val, Int.natCast_emod, Int.natCast_ediv, e]
  rfl
def AcRel (v n : Nat) (w : World) (i : Value) (wr : World) : Prop :=
  ∃ k : Nat, i = .int .i64 k ∧ k ≤ n ∧ wr.ownsRow w.heap.size 5 1 (.slice (some ⟨w.heap.size, 0, none⟩) n n) n ((front v n k).map B) ∧ Below w.heap.size w wr
set_option maxHeartbeats 1000000 in
theorem acut_any (v n : Nat) (w : World) (hv : v < 18446744073709551616) (hn : n ≤ 8) :
    Calls Tryz.prog 108 #[.int .u64 v, .int .i64 n] w fun e w' => e = .returned (.slice (some ⟨w.heap.size, 0, none⟩) n n) ∧ Own 5 w' w.heap.size (.slice (some ⟨w.heap.size, 0, none⟩) n n) (octs v n) ∧ Below w.heap.size w w' := by
  obtain ⟨i0, hi, hz0, hz1, hz2⟩ := info_parts bt.info
  obtain ⟨w1, hmk, hown, hg⟩ := run_make_full w w.heap.size 74 5 i0 (.int .u8 0) 1 bt.us hi hz0 hz1 .i64 .i64 n (by rw [hz2]; omega) (by unfold maxLen; omega) (Nat.le_refl _)
  have HB1 := Lib.hid ((Below.refl w.heap.size w).grown hg (Nat.le_refl _) (by simp))
  have HO1 := Lib.hid (made_ownA hown)
  rw [← front_zero v n] at HO1
  have HR0 : Hid (AcRel v n w (.int .i64 0) w1) := Lib.hid ⟨0, rfl, Nat.zero_le _, HO1.out, HB1.out⟩
  clear hi hz0 hz1 hz2 hown hg HO1
  go_enter Tryz.func108, Tryz.ntmps108
  go_wp2
  clear hmk
  go_loopw [11] (fun i wr => AcRel v n w i wr) (fun i _ => n - (intOf i).toNat)
  case atStart => exact HR0.out
  case round =>
    clear HR0
    obtain ⟨k, rfl, hk, hown, hb⟩ := hrel
    rcases Nat.lt_or_ge k n with hlt | hge
    · obtain ⟨u, hcell⟩ : ∃ u, wr.cell? ⟨w.heap.size, k, none⟩ = some u := by
        have hfl := front_length (v := v) hk
        exact ⟨B ((front v n k)[k]'(by omega)), by rw [World.ownsRow.cellAt hown k (by omega), List.getElem?_map, List.getElem?_eq_getElem (by omega)]; rfl⟩
      have hfr : wr.frozen? ⟨w.heap.size, k, none⟩ = false := World.ownsRow.frozenAt hown k
      obtain ⟨m, hm⟩ : ∃ m, n - 1 - k = m := ⟨_, rfl⟩
      have HM : Hid ((n : Int) - 1 - k = (m : Int)) := Lib.hid (by omega)
      have HV : Hid (Value.int .u8 ((v : Int) / 2 ^ (8 * m) % 256) = B (UInt8.ofNat (v / 256 ^ (n - 1 - k)))) := Lib.hid (by
        rw [hm, shr8A]
        rfl)
      have HF := Lib.hid (front_step (v := v) hlt)
      have HO := Lib.hid hown
      clear hown
      go_wp2
      go_roundw
      case rel =>
        have h1 := (World.ownsRow.stored HO.out k (B (UInt8.ofNat (v / 256 ^ (n - 1 - k))))).1
        rw [← List.map_set, HF.out] at h1
        exact ⟨k + 1, by go_num, by omega, by rw [HV.out]; exact h1, hb.setCell (by simp) _⟩
      case measure => simp [intOf]; omega
    · obtain rfl : k = n := by omega
      rw [front_end] at hown
      have HO := Lib.hid hown
      clear hown
      go_wp2
      go_ret
      exact ⟨rfl, own_of (octs_length _ _) HO.out, hb⟩
end Go.Proofs.YtpmlldgjbmingaaGreatDoor
namespace Go.Proofs.YtpmlldgjbmingaaGreatDoor
open Go.RowKit
set_option linter.unusedVariables false

theorem nats_lt (l : List UInt8) : ∀ c ∈ nats l, c < 2 ^ 8 := by
  intro c hc
  obtain ⟨b, _, rfl⟩ := List.mem_map.1 hc
  exact b.toNat_lt
theorem pow256 {n : Nat} (h : n ≤ 8) : (2 ^ 8) ^ n ≤ 18446744073709551616 := Nat.le_trans (Nat.pow_le_pow_right (by decide) h) (by decide)
theorem pow65536 {n : Nat} (h : n ≤ 4) : (2 ^ 16) ^ n ≤ 18446744073709551616 := Nat.le_trans (Nat.pow_le_pow_right (by decide) h) (by decide)

theorem infoA : (Tryz.prog.info? 24).map (·.size) = some 3 := by kernel_rfl
/-- What a function hands back that holds its address in a block. -/
theorem ret_ad {fn : Func} {p : Tmp} (h : fn.results = #[.cell p 24]) (tmps : Array Value) (w : World) (g : Nat) (a : Ad) (hp : tmps.getD p undef = .pointer (some ⟨g, 0, none⟩))
    (hg : Lies w g 24 #[.bool a.1, .int .u64 (a.2.1 : Int), .int .u64 (a.2.2 : Int)]) : (results fn tmps).run Tryz.prog w = .ok (av a) w :=
  results_cell_row h tmps w g _ _ _ _ hp hg Tryz.underlying24 rfl infoA
theorem ret_ad2 {fn : Func} {p u : Tmp} (h : fn.results = #[.cell p 24, .tmp u]) (tmps : Array Value) (w : World) (g : Nat) (a : Ad) (hp : tmps.getD p undef = .pointer (some ⟨g, 0, none⟩))
    (hg : Lies w g 24 #[.bool a.1, .int .u64 (a.2.1 : Int), .int .u64 (a.2.2 : Int)]) : (results fn tmps).run Tryz.prog w = .ok (.tuple #[av a, tmps.getD u undef]) w := by
  rw [results_cell_tmp h, hp]
  simp only [asAddr, Sem.run_pure, Result.andThen_ok]
  rw [run_loadVar_row w g _ _ _ _ _ hg Tryz.underlying24 rfl infoA]
  rfl

theorem elder_any (l : List UInt8) (v : Value) (w : World) (h : RowE B w v l) (hl : l.length ≤ 8) :
    Calls Tryz.prog 63 #[v] w fun e w' => e = .returned (av (elderA (nats l))) ∧ Below w.heap.size w w' := by
  have HJ := Lib.hid (fun wx hx => joinedB_any 8 (.inr rfl) l v wx hx (nats_lt l) (pow256 hl))
  have HR := Lib.hid (fun o => h.next (w' := w.alloc o) ((Below.refl _ _).alloc (Nat.le_refl _) o))
  obtain ⟨A, cap, rfl, _⟩ := h.shape
  clear h
  go_enter Tryz.func63, Tryz.ntmps63
  go_wp2_with (go_at_call 101; refine (HJ.out _ (HR.out _)).mono ?_; rintro e w' ⟨rfl, rfl⟩)
  refine bodyPost_ret (ret_ad rfl _ _ w.heap.size (elderA (nats l)) rfl (Lies.new _ _ _)) rfl ?_
  exact ⟨rfl, (Below.refl _ _).alloc (Nat.le_refl _) _⟩

theorem size1 (w : World) (o : Obj) : (w.alloc o).heap.size = w.heap.size + 1 := by simp
/-- A literal row behind a block of another kind. -/
theorem lit_row {α : Type} {enc : α → Value} (w : World) (o : Obj) (t : TypeId) (cs : Array Value) (L : List α) (hl : cs.toList = L.map enc) (hm : L.length ≤ maxLen) :
    RowE enc ((w.alloc o).alloc (.cells cs t)) (.slice (some ⟨w.heap.size + 1, 0, none⟩) L.length L.length) L := by
  have h := (At.of_lies (enc := enc) (Lies.new (w.alloc o) t cs) hl hm).row
  rw [size1] at h
  exact h
/-- A block that bears an address. -/
def AdB (w : World) (g : Nat) (six : Bool) (hi lo : Int) : Prop := Lies w g 24 #[.bool six, .int .u64 hi, .int .u64 lo]
theorem AdB.facts {w : World} {g : Nat} {six : Bool} {hi lo : Int} (h : AdB w g six hi lo) : (w.cell? ⟨g, 0, none⟩ = some (.bool six) ∧ w.cell? ⟨g, 1, none⟩ = some (.int .u64 hi) ∧ w.cell? ⟨g, 2, none⟩ = some (.int .u64 lo)) ∧ w.frozen? ⟨g, 0, none⟩ = false ∧ w.frozen? ⟨g, 1, none⟩ = false ∧ w.frozen? ⟨g, 2, none⟩ = false :=
  ⟨⟨Lies.cell h 0, Lies.cell h 1, Lies.cell h 2⟩, Lies.free h 0, Lies.free h 1, Lies.free h 2⟩
theorem AdB.put {w : World} {g : Nat} {six : Bool} {hi lo : Int} (h : AdB w g six hi lo) (six' : Bool) (hi' lo' : Int) : AdB (((w.setCell ⟨g, 0, none⟩ (.bool six')).setCell ⟨g, 1, none⟩ (.int .u64 hi')).setCell ⟨g, 2, none⟩ (.int .u64 lo')) g six' hi' lo' := by
  have := ((Lies.set h 0 (.bool six')).set 1 (.int .u64 hi')).set 2 (.int .u64 lo')
  simpa [AdB] using this
theorem AdB.of {w w' : World} (o : Obj) (hb : Below ((w.alloc (.cells #[.bool false, .int .u64 0, .int .u64 0] 24)).alloc o).heap.size ((w.alloc (.cells #[.bool false, .int .u64 0, .int .u64 0] 24)).alloc o) w') : AdB w' w.heap.size false 0 0 := ((Lies.new w _ _).alloc _).next hb
theorem below_dN {n : Nat} {w w' : World} (h : Below n w w') (k : Nat) : Below n w (w'.drewN k) := ⟨h.os, h.tape, h.output, h.size, h.block⟩
theorem put3 {n g : Nat} {w w' : World} (h : Below n w w') (hg : n ≤ g) (x y z : Value) : Below n w (((w'.setCell ⟨g, 0, none⟩ x).setCell ⟨g, 1, none⟩ y).setCell ⟨g, 2, none⟩ z) := ((h.setCell (p := ⟨g, 0, none⟩) hg x).setCell (p := ⟨g, 1, none⟩) hg y).setCell (p := ⟨g, 2, none⟩) hg z
theorem Four_any (a b c d : UInt8) (w : World) :
    Calls Tryz.prog 30 #[.int .u8 a.toNat, .int .u8 b.toNat, .int .u8 c.toNat, .int .u8 d.toNat] w fun e w' => e = .returned (av (elderA [a.toNat, b.toNat, c.toNat, d.toNat])) ∧ Below w.heap.size w w' := by
  have HE := Lib.hid (fun v wx hx => elder_any [a, b, c, d] v wx hx (by simp))
  have HR := Lib.hid (fun (o : Obj) => lit_row (enc := B) w o 5 #[.int .u8 a.toNat, .int .u8 b.toNat, .int .u8 c.toNat, .int .u8 d.toNat] [a, b, c, d] rfl (by show 4 ≤ maxLen; decide))
  simp only [av, elderA] at HE
  go_enter Tryz.func30, Tryz.ntmps30
  go_wp2_with (go_at_call 63; refine (HE.out _ _ (HR.out _)).mono ?_; rintro e w' ⟨rfl, hb⟩; have HL : Hid (AdB w' w.heap.size false 0 0) := Lib.hid (AdB.of _ hb); obtain ⟨⟨hc0, hc1, hc2⟩, hf0, hf1, hf2⟩ := HL.out.facts; have HB := Lib.hid hb; clear hb)
  refine bodyPost_ret (ret_ad rfl _ _ w.heap.size (elderA [a.toNat, b.toNat, c.toNat, d.toNat]) rfl (AdB.put HL.out _ _ _)) rfl ?_
  exact ⟨rfl, put3 ((((Below.refl _ _).alloc (Nat.le_refl _) _).alloc (by simp) _).trans (HB.out.mono (by simp; omega))) (Nat.le_refl _) _ _ _⟩

theorem aCheck_any (six : Bool) (hi lo : Nat) (w : World) (h1 : hi < 18446744073709551616) (h2 : lo < 18446744073709551616) :
    Calls Tryz.prog 22 #[.agg #[.bool six, .int .u64 (hi : Int), .int .u64 (lo : Int)]] w fun e w' => e = .returned (.int .i64 (chkA (six, hi, lo))) ∧ Below w.heap.size w w' := by
  have hc : chkA (six, hi, lo) = if six = false ∧ (hi ≠ 0 ∨ 4294967295 < lo) then 2 else 0 := rfl
  rw [hc]
  clear hc
  cases six
  · by_cases h3 : hi = 0
    · subst h3
      by_cases h4 : 4294967295 < lo
      · rw [if_pos ⟨rfl, .inr h4⟩]
        go_enter Tryz.func22, Tryz.ntmps22
        go_wp2
        go_ret
        exact ⟨rfl, (Below.refl _ _).alloc (Nat.le_refl _) _⟩
      · rw [if_neg (by simp; omega)]
        go_enter Tryz.func22, Tryz.ntmps22
        go_wp2
        go_ret
        exact ⟨rfl, (Below.refl _ _).alloc (Nat.le_refl _) _⟩
    · rw [if_pos ⟨rfl, .inl h3⟩]
      go_enter Tryz.func22, Tryz.ntmps22
      go_wp2
      go_ret
      exact ⟨rfl, (Below.refl _ _).alloc (Nat.le_refl _) _⟩
  · rw [if_neg (by simp)]
    go_enter Tryz.func22, Tryz.ntmps22
    go_wp2
    go_ret
    exact ⟨rfl, (Below.refl _ _).alloc (Nat.le_refl _) _⟩

end Go.Proofs.YtpmlldgjbmingaaGreatDoor
namespace Go.Proofs.YtpmlldgjbmingaaGreatDoor
open Go.RowKit
set_option linter.unusedVariables false

set_option maxHeartbeats 1000000 in
theorem newerU8_any (l : List Nat) (v : Value) (w : World) (h : RowE U16 w v l) (hl : l.length = 8) (hd : ∀ c ∈ l, c < 2 ^ 16) :
    Calls Tryz.prog 98 #[v] w fun e w' => e = .returned (av (newerA 65536 (l))) ∧ Below w.heap.size w w' := by
  obtain ⟨g, off, cap, rfl, hat⟩ := h.at' (fun e => by rw [e] at hl; cases hl)
  have HA := Lib.hid (fun (wx : World) (e : wx.heap = (w.alloc (.cells #[.bool false, .int .u64 0, .int .u64 0] 24)).heap) => (hat.alloc _).heap e)
  have H1 := Lib.hid (fun wx hx => joinedU_at 16 16 rfl rfl (l.take 4) (.slice (some ⟨g, off, none⟩) (4 : Nat) cap) wx hx (fun c hc => hd c (List.take_subset _ _ hc)) (pow65536 (by rw [List.length_take, hl]; decide)))
  have H2 := Lib.hid (fun wx hx => joinedU_at 16 16 rfl rfl (l.drop 4) (.slice (some ⟨g, off + 4, none⟩) (4 : Nat) (cap - 4)) wx hx (fun c hc => hd c (List.drop_subset _ _ hc)) (pow65536 (by rw [List.length_drop, hl]; decide)))
  have HX1 := Lib.hid (fun (wx : World) (hx : At U16 wx g off cap l) => hx.take (n := 4) (by omega))
  have HX2 : Hid (∀ (wx : World) (hx : At U16 wx g off cap l), RowE U16 wx (.slice (some ⟨g, off + 4, none⟩) (4 : Nat) (cap - 4)) (l.drop 4)) := Lib.hid (fun (wx : World) (hx : At U16 wx g off cap l) => by
    have := hx.drop (n := 4) (by omega)
    rw [hl] at this
    exact this)
  have hcap : 8 ≤ cap := by have := hat.le; omega
  have hfit : cap ≤ 9223372036854775807 := by have := hat.fit; unfold maxLen at this; exact this
  have HE : Hid (newerA 65536 (l) = (true, jn 65536 (l.take 4), jn 65536 (l.drop 4))) := Lib.hid (by
    unfold newerA
    rw [hl])
  rw [HE.out, hl]
  have hc1 : ((4 : Nat) : Int) ≤ (cap : Int) := by omega
  clear h hat hl
  go_enter Tryz.func98, Tryz.ntmps98
  go_wp2
  go_quiet (fail)
  go_wp2
  go_region_with (first | (go_at_call 137; (with_reducible refine (H1.out _ (HX1.out _ (HA.out _ ?_))).mono ?_); exact rfl; rintro e w' ⟨rfl, rfl⟩) | (go_at_call 137; (with_reducible refine (H2.out _ (HX2.out _ (HA.out _ ?_))).mono ?_); exact rfl; rintro e w' ⟨rfl, rfl⟩))
  all_goals
    try go_wp2
    refine bodyPost_ret (ret_ad rfl _ _ w.heap.size (true, jn 65536 (l.take 4), jn 65536 (l.drop 4)) rfl (AdB.put (six := false) (hi := 0) (lo := 0) (Lies.drewN (Lies.new w _ _) _) _ _ _)) rfl ?_
    exact ⟨rfl, put3 (below_dN ((Below.refl _ _).alloc (Nat.le_refl _) _) _) (Nat.le_refl _) _ _ _⟩
end Go.Proofs.YtpmlldgjbmingaaGreatDoor
