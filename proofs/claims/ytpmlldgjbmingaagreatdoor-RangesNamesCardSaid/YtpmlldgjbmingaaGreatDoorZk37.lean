/-
  RangesNames: the chapter's examples come out as it tells: the walk. Condition: the laid tables' cells (Ground).
-/
import Derived.Test.YtpmlldgjbmingaaGreatDoorZk34
import Derived.Test.YtpmlldgjbmingaaGreatDoorZk28
import Derived.Test.YtpmlldgjbmingaaGreatDoorZk32
import Derived.Test.YtpmlldgjbmingaaGreatDoorZk36
import Derived.Test.YtpmlldgjbmingaaGreatDoorQui
namespace Go.Proofs.YtpmlldgjbmingaaGreatDoor
open Go.RowKit Go.Maps
set_option linter.unusedVariables false

theorem fitL {s : Bool} {h l : Nat} (h1 : h < 18446744073709551616) (h2 : l < 18446744073709551616) : fitA (s, h, l) := ⟨h1, h2⟩
theorem rn_c3 : GG 27 #[.string ⟨#[49, 48, 46, 48, 46, 48, 46, 48]⟩] (.tuple #[.agg #[.bool false, .int .u64 0, .int .u64 0, .int .i64 0], .int .i64 7]) := gRr (six := false) (hi := 0) (lo := 0) (b := 0) (e := 7) (by decide) (by decide +kernel)
theorem rn_c4 : GG 27 #[.string ⟨#[49, 48, 46, 48, 46, 48, 46, 48, 47, 48, 51]⟩] (.tuple #[.agg #[.bool false, .int .u64 0, .int .u64 0, .int .i64 0], .int .i64 7]) := gRr (six := false) (hi := 0) (lo := 0) (b := 0) (e := 7) (by decide) (by decide +kernel)
theorem rn_c5 : GG 27 #[.string ⟨#[49, 48, 46, 48, 46, 48, 46, 48, 47, 51, 51]⟩] (.tuple #[.agg #[.bool false, .int .u64 0, .int .u64 0, .int .i64 0], .int .i64 2]) := gRr (six := false) (hi := 0) (lo := 0) (b := 0) (e := 2) (by decide) (by decide +kernel)
theorem rn_c6 : GG 27 #[.string ⟨#[120, 47, 56]⟩] (.tuple #[.agg #[.bool false, .int .u64 0, .int .u64 0, .int .i64 0], .int .i64 7]) := gRr (six := false) (hi := 0) (lo := 0) (b := 0) (e := 7) (by decide) (by decide +kernel)
theorem rn_c7 : GG 27 #[.string ⟨#[49, 48, 46, 48, 46, 48, 46, 48, 47, 56]⟩] (.tuple #[.agg #[.bool false, .int .u64 0, .int .u64 167772160, .int .i64 8], .int .i64 0]) := gRr (six := false) (hi := 0) (lo := 167772160) (b := 8) (e := 0) (by decide) (by decide +kernel)
theorem rn_c9 : GG 27 #[.string ⟨#[102, 100, 48, 48, 58, 58, 47, 54, 52]⟩] (.tuple #[.agg #[.bool true, .int .u64 18230571291595767808, .int .u64 0, .int .i64 64], .int .i64 0]) := gRr (six := true) (hi := 18230571291595767808) (lo := 0) (b := 64) (e := 0) (by decide) (by decide +kernel)
theorem rn_c10 : GG 27 #[.string ⟨#[49, 48, 46, 50, 53, 53, 46, 48, 46, 48, 47, 49, 54]⟩] (.tuple #[.agg #[.bool false, .int .u64 0, .int .u64 184483840, .int .i64 16], .int .i64 0]) := gRr (six := false) (hi := 0) (lo := 184483840) (b := 16) (e := 0) (by decide) (by decide +kernel)
theorem rn_c14 : GG 27 #[.string ⟨#[49, 48, 46, 48, 46, 48, 46, 52, 47, 51, 50]⟩] (.tuple #[.agg #[.bool false, .int .u64 0, .int .u64 167772164, .int .i64 32], .int .i64 0]) := gRr (six := false) (hi := 0) (lo := 167772164) (b := 32) (e := 0) (by decide) (by decide +kernel)
theorem rn_c15 : GG 27 #[.string ⟨#[49, 48, 46, 48, 46, 48, 46, 48, 47, 50, 57]⟩] (.tuple #[.agg #[.bool false, .int .u64 0, .int .u64 167772160, .int .i64 29], .int .i64 0]) := gRr (six := false) (hi := 0) (lo := 167772160) (b := 29) (e := 0) (by decide) (by decide +kernel)
theorem rn_text : GG 28 #[.agg #[.bool false, .int .u64 0, .int .u64 167772160, .int .i64 8]] (.tuple #[.string ⟨#[49, 48, 46, 48, 46, 48, 46, 48, 47, 56]⟩, .int .i64 0]) := gTr (six := false) (hi := 0) (lo := 167772160) (n := 8) (s := ⟨#[49, 48, 46, 48, 46, 48, 46, 48, 47, 56]⟩) (e := 0) (fitL (by decide) (by decide)) (by decide +kernel)
theorem rn_f1 : GG 30 #[.int .u8 10, .int .u8 0, .int .u8 1, .int .u8 0] (.agg #[.bool false, .int .u64 0, .int .u64 167772416]) := gFr 10 0 1 0
theorem rn_f2 : GG 30 #[.int .u8 10, .int .u8 1, .int .u8 0, .int .u8 0] (.agg #[.bool false, .int .u64 0, .int .u64 167837696]) := gFr 10 1 0 0
theorem rn_f3 : GG 30 #[.int .u8 10, .int .u8 9, .int .u8 9, .int .u8 9] (.agg #[.bool false, .int .u64 0, .int .u64 168364297]) := gFr 10 9 9 9
theorem rn_f4 : GG 30 #[.int .u8 11, .int .u8 0, .int .u8 0, .int .u8 0] (.agg #[.bool false, .int .u64 0, .int .u64 184549376]) := gFr 11 0 0 0
theorem rn_i1 : GG 29 #[.agg #[.bool false, .int .u64 0, .int .u64 167772160, .int .i64 8], .agg #[.bool false, .int .u64 0, .int .u64 167772416]] (.tuple #[.int .i64 256, .bool true]) := gIr (six := false) (hi := 0) (lo := 167772160) (n := 8) (s := false) (ah := 0) (al := 167772416) (i := 256) (is := true) (fitL (by decide) (by decide)) (fitL (by decide) (by decide)) (by decide +kernel)
theorem rn_i2 : GG 29 #[.agg #[.bool false, .int .u64 0, .int .u64 167772160, .int .i64 8], .agg #[.bool false, .int .u64 0, .int .u64 167837696]] (.tuple #[.int .i64 0, .bool false]) := gIr (six := false) (hi := 0) (lo := 167772160) (n := 8) (s := false) (ah := 0) (al := 167837696) (i := 0) (is := false) (fitL (by decide) (by decide)) (fitL (by decide) (by decide)) (by decide +kernel)
theorem rn_at : GG 31 #[.agg #[.bool false, .int .u64 0, .int .u64 167772160, .int .i64 8], .int .i64 (-1)] (.tuple #[.agg #[.bool false, .int .u64 0, .int .u64 0], .bool false]) := gAr (six := false) (hi := 0) (lo := 167772160) (n := 8) (i := -1) (s := false) (ah := 0) (al := 0) (is := false) (fitL (by decide) (by decide)) (by decide +kernel)
theorem rn_s1 : GG 32 #[.agg #[.bool false, .int .u64 0, .int .u64 167772160, .int .i64 8]] (.int .i64 65536) := gSr (six := false) (hi := 0) (lo := 167772160) (n := 8) (z := 65536) (fitL (by decide) (by decide)) (by decide +kernel)
theorem rn_s2 : GG 32 #[.agg #[.bool true, .int .u64 18230571291595767808, .int .u64 0, .int .i64 64]] (.int .i64 65536) := gSr (six := true) (hi := 18230571291595767808) (lo := 0) (n := 64) (z := 65536) (fitL (by decide) (by decide)) (by decide +kernel)
theorem rn_s3 : GG 32 #[.agg #[.bool false, .int .u64 0, .int .u64 0, .int .i64 40]] (.int .i64 0) := gSr (six := false) (hi := 0) (lo := 0) (n := 40) (z := 0) (fitL (by decide) (by decide)) (by decide +kernel)
theorem rn_m1 : GG 33 #[.agg #[.bool false, .int .u64 0, .int .u64 167772160, .int .i64 8], .agg #[.bool false, .int .u64 0, .int .u64 184483840, .int .i64 16]] (.bool true) := gMr (six := false) (hi := 0) (lo := 167772160) (n := 8) (s := false) (ah := 0) (al := 184483840) (m := 16) (b := true) (fitL (by decide) (by decide)) (fitL (by decide) (by decide)) (by decide +kernel)
theorem rn_m2 : GG 33 #[.agg #[.bool false, .int .u64 0, .int .u64 184483840, .int .i64 16], .agg #[.bool false, .int .u64 0, .int .u64 167772160, .int .i64 8]] (.bool true) := gMr (six := false) (hi := 0) (lo := 184483840) (n := 16) (s := false) (ah := 0) (al := 167772160) (m := 8) (b := true) (fitL (by decide) (by decide)) (fitL (by decide) (by decide)) (by decide +kernel)
theorem rn_m3 : GG 33 #[.agg #[.bool false, .int .u64 0, .int .u64 167772160, .int .i64 8], .agg #[.bool true, .int .u64 18230571291595767808, .int .u64 0, .int .i64 64]] (.bool false) := gMr (six := false) (hi := 0) (lo := 167772160) (n := 8) (s := true) (ah := 18230571291595767808) (al := 0) (m := 64) (b := false) (fitL (by decide) (by decide)) (fitL (by decide) (by decide)) (by decide +kernel)
theorem rn_h1 : GG 34 #[.agg #[.bool false, .int .u64 0, .int .u64 167772160, .int .i64 8], .agg #[.bool false, .int .u64 0, .int .u64 168364297]] (.bool true) := gHr (six := false) (hi := 0) (lo := 167772160) (n := 8) (s := false) (ah := 0) (al := 168364297) (b := true) (fitL (by decide) (by decide)) (fitL (by decide) (by decide)) (by decide +kernel)
theorem rn_h2 : GG 34 #[.agg #[.bool false, .int .u64 0, .int .u64 167772160, .int .i64 8], .agg #[.bool false, .int .u64 0, .int .u64 184549376]] (.bool false) := gHr (six := false) (hi := 0) (lo := 167772160) (n := 8) (s := false) (ah := 0) (al := 184549376) (b := false) (fitL (by decide) (by decide)) (fitL (by decide) (by decide)) (by decide +kernel)
theorem rn_free : freeR (false, 0, 167772160) 29 [((false, 0, 167772164), 32)] = 7 := by decide +kernel
theorem bx_four {w wr : World} {B : List (Nat × TypeId × Array Value)} {g : Nat} {t : TypeId} {c0 c1 c2 c3 : Value} (r : Bx w wr B) (h : (g, t, #[c0, c1, c2, c3]) ∈ B) : wr.cell? ⟨g, 0, none⟩ = some c0 ∧ wr.cell? ⟨g, 1, none⟩ = some c1 ∧ wr.cell? ⟨g, 2, none⟩ = some c2 ∧ wr.cell? ⟨g, 3, none⟩ = some c3 :=
  ⟨(r.at h).cell 0, (r.at h).cell 1, (r.at h).cell 2, (r.at h).cell 3⟩


section
variable {ρ : Operand → Value} {o : Oper} {w : World}
theorem rn_bs {x : Operand} {s : Bool} {hi lo : Nat} {n : Int} (hop : o.op = .buildSlice 53 1 #[(0, x)]) (hx : ρ x = .agg #[.bool s, .int .u64 (hi : Int), .int .u64 (lo : Int), .int .i64 n]) : (execOp ρ o).run Tryz.prog w = .ok (.value (.slice (some ⟨w.heap.size, 0, none⟩) 1 1)) (w.alloc (.cells #[.bool s, .int .u64 (hi : Int), .int .u64 (lo : Int), .int .i64 n] 41)) := by
  simp [execOp, hop, hx, go_sem]
theorem rn_bd {n : Int} (hc : ∀ v, ρ (.const v) = v) (hop : o.op = .build 41 #[(1, .const (.int .i64 n))]) : (execOp ρ o).run Tryz.prog w = .ok (.value (.agg #[.bool false, .int .u64 0, .int .u64 0, .int .i64 n])) w := by
  simp [execOp, hop, hc, go_sem]
theorem rn_row {s : Bool} {hi lo : Nat} {n : Int} (hf : fitA (s, hi, lo)) : RgRow (w.alloc (.cells #[.bool s, .int .u64 (hi : Int), .int .u64 (lo : Int), .int .i64 n] 41)) (.slice (some ⟨w.heap.size, 0, none⟩) 1 1) [((s, hi, lo), n)] := by
  have hl := Lies.new w 41 #[.bool s, .int .u64 (hi : Int), .int .u64 (lo : Int), .int .i64 n]
  refine ⟨⟨some ⟨w.heap.size, 0, none⟩, 1, rfl, Nat.le_refl _, by decide, fun j hj => ?_⟩, fun x hx => ?_⟩
  · obtain rfl : j = 0 := by simpa using hj
    exact ⟨w.heap.size, 0, rfl, hl.lt, ⟨hl.cell 0, hl.cell 1, hl.cell 2, hl.cell 3⟩⟩
  · obtain rfl : x = ((s, hi, lo), n) := by simpa using hx
    exact hf
end
def rnL : List Nat := [165, 166, 167, 168, 169, 170, 171, 172, 173, 174, 175, 176, 0]
def rnS (j : Nat) : Nat := if j = 90 then 0 else j + 87
def rnK (j : Nat) : Value := if j = 79 then (.agg #[.bool false, .int .u64 0, .int .u64 167772160, .int .i64 29]) else if j = 80 then (.agg #[.bool false, .int .u64 0, .int .u64 167772164, .int .i64 32]) else if j = 82 then .int .i64 7 else if j = 86 then .agg #[.bool false, .int .u64 0, .int .u64 0, .int .i64 40] else if j = 87 then .int .i64 0 else .bool true
def rnV (j : Nat) (v : Value) (w : World) : Prop := if j = 81 then RgRow w v [((false, 0, 167772164), 32)] else v = rnK j
theorem rnV_eq {j : Nat} {v : Value} {w : World} (h : j ≠ 81) : rnV j v w ↔ v = rnK j := by unfold rnV; rw [if_neg h]
theorem rnV_row {v : Value} {w : World} : rnV 81 v w ↔ RgRow w v [((false, 0, 167772164), 32)] := by unfold rnV; rw [if_pos rfl]
theorem rnV_grow {j : Nat} {v : Value} {w w' : World} (h : rnV j v w) (hb : Below w.heap.size w w') : rnV j v w' := by
  unfold rnV at h ⊢
  split at h
  · rename_i e; rw [if_pos e]; exact h.next hb
  · rename_i e; rw [if_neg e]; exact h
theorem rnS_mem {i : Nat} (h1 : 78 ≤ i) (h2 : i < 91) : rnS i ∈ rnL := by
  have : i = 78 ∨ i = 79 ∨ i = 80 ∨ i = 81 ∨ i = 82 ∨ i = 83 ∨ i = 84 ∨ i = 85 ∨ i = 86 ∨ i = 87 ∨ i = 88 ∨ i = 89 ∨ i = 90 := by omega
  rcases this with rfl | rfl | rfl | rfl | rfl | rfl | rfl | rfl | rfl | rfl | rfl | rfl | rfl <;> decide
theorem rnS_inj {i j : Nat} (h : rnS i = rnS j) : i = j := by
  unfold rnS at h
  split at h <;> split at h <;> omega
theorem rnS_lt {i : Nat} (h : i < 91) : rnS i < 177 := by
  unfold rnS
  split <;> omega
/-- The rest of the law's last region, behind its first 78 operations. -/
theorem rn_inv {P : Program} {Q : Exit → Act → World → Prop} {l : List Oper} {a0 : Act} {W1 : World} (hlen : l.length = 91) (hb : backB 0 l = true) (hsz : a0.tmps.size = 177)
    (step : ∀ (i : Nat) (o : Oper) (a : Act) (w : World) (K : Act → World → Prop), l[i]? = some o → 78 ≤ i → i < 91 → Frm a0 rnL a → Below W1.heap.size W1 w →
      (∀ e ∈ o.after, Region.binds .any e = true → 78 ≤ e.on → rnV e.on (slot a (rnS e.on)) w) → a.tmps.size = 177 → (∀ v w', Below w.heap.size w w' → rnV i v w' → K (a.put (some (rnS i)) v) w') → wpOp P l.toArray Q i K a w)
    (fin : ∀ a w, Frm a0 rnL a → Below W1.heap.size W1 w → slot a 0 = .bool true → a.tmps.size = 177 → Q .normal a w) : RegAt P l Q 78 a0 W1 := by
  refine at_inv 78 (by omega) hb (fun _ a w' => Frm a0 rnL a ∧ Below W1.heap.size W1 w') (fun j a w => 78 ≤ j → j < 91 → rnV j (slot a (rnS j)) w) ⟨Frm.refl _ _, Below.refl _ _⟩ (fun j hj h => by omega) ?_ ?_
  · intro f i o a w D ho hf hn hD hdep hcl hB hT
    have hi : 78 ≤ i := Nat.le_of_not_lt fun h => hn (hD i h)
    have hi2 : i < 91 := by rw [← hlen]; exact (List.getElem?_eq_some_iff.1 ho).1
    have hs : a.tmps.size = 177 := hB.1.size.trans hsz
    refine step i o a w _ ho hi hi2 hB.1 hB.2 (fun e he hbd h79 => hT _ (hdep e he hbd) h79 ?_) hs ?_
    · have := backB_spec l 0 hb i o ho e he
      omega
    · intro v w' hbw hv
      refine ⟨⟨hB.1.put (rnS_mem hi hi2) (by rw [hsz]; exact rnS_lt hi2) v, hB.2.trans (hbw.mono hB.2.size)⟩, fun _ _ => ?_, fun j hj h1 h2 => ?_⟩
      · rw [slot_put (by rw [hs]; exact rnS_lt hi2), if_pos rfl]
        exact hv
      · rw [slot_put (by rw [hs]; exact rnS_lt hi2), if_neg (fun e => hn (by rw [← rnS_inj e]; exact hj))]
        exact rnV_grow (hT j hj h1 h2) hbw
  · intro a w hB hT
    have h := hT 90 (by omega) (by decide) (by decide)
    rw [rnV_eq (by decide)] at h
    exact fin a w hB.1 hB.2 h (hB.1.size.trans hsz)
theorem class_bx {w W : World} {B : List (Nat × TypeId × Array Value)} (r : Bx w W B) (hG : Ground W) : ∃ (Ix : Type) (f : Ix → World) (i0 : Ix), W.drew = f i0 ∧ (∀ n, Bx w (f n) B) ∧ (∀ {fi : FuncId} {args : Array Value} {v : Value}, GG fi args v → ∀ n, Calls Tryz.prog fi args (f n) fun e w' => e = .returned v ∧ ∃ m, w' = f m) := by
  obtain ⟨Ix, f, i0, h0, h1, h2⟩ := class_of W
  exact ⟨Ix, f, i0, h0, fun n => r.next (h1 n), fun h n => class_go h hG h1 h2 n⟩

set_option maxHeartbeats 8000000 in
set_option maxRecDepth 100000 in
theorem RangesNames_walk (w : World) (hG : Ground w) : Calls Tryz.prog 4 #[] w fun e w' => e = .returned (.bool true) ∧ Below w.heap.size w w' := by
  have HG := Lib.hid (fun wx (hb : Below w.heap.size w wx) => hG.next hb)
  have HS := Lib.hid (Bx.start w)
  have G_lives5 := Lib.hid lives5
  have G_rn_c3 := Lib.hid rn_c3
  have G_rn_c4 := Lib.hid rn_c4
  have G_rn_c5 := Lib.hid rn_c5
  have G_rn_c6 := Lib.hid rn_c6
  have G_rn_c7 := Lib.hid rn_c7
  have G_rn_text := Lib.hid rn_text
  have G_rn_c9 := Lib.hid rn_c9
  have G_rn_c10 := Lib.hid rn_c10
  have G_rn_f1 := Lib.hid rn_f1
  have G_rn_i1 := Lib.hid rn_i1
  have G_rn_f2 := Lib.hid rn_f2
  have G_rn_i2 := Lib.hid rn_i2
  have G_rn_at := Lib.hid rn_at
  have G_rn_c14 := Lib.hid rn_c14
  have G_rn_c15 := Lib.hid rn_c15
  have G_rn_s1 := Lib.hid rn_s1
  have G_rn_s2 := Lib.hid rn_s2
  have G_rn_s3 := Lib.hid rn_s3
  have G_rn_m1 := Lib.hid rn_m1
  have G_rn_m2 := Lib.hid rn_m2
  have G_rn_m3 := Lib.hid rn_m3
  have G_rn_f3 := Lib.hid rn_f3
  have G_rn_h1 := Lib.hid rn_h1
  have G_rn_f4 := Lib.hid rn_f4
  have G_rn_h2 := Lib.hid rn_h2
  clear hG
  go_enter Tryz.func4, Tryz.ntmps4
  go_wp2_with fail
  (with_reducible refine (G_lives5.out.go _ (HG.out _ HS.out.bel)).mono ?_)
  rintro e w1 ⟨rfl, hb⟩
  replace HS := Lib.hid (HS.out.next hb)
  clear hb
  go_wp2_with fail
  (with_reducible refine (G_rn_c3.out.go _ (HG.out _ HS.out.bel)).mono ?_)
  rintro e w2 ⟨rfl, hb⟩
  replace HS := Lib.hid (HS.out.next hb)
  clear hb
  replace HS := Lib.hid (HS.out.more 41 #[.bool false, .int .u64 0, .int .u64 0, .int .i64 0])
  go_wp2_with fail
  (with_reducible refine (G_rn_c4.out.go _ (HG.out _ HS.out.bel)).mono ?_)
  rintro e w3 ⟨rfl, hb⟩
  replace HS := Lib.hid (HS.out.next hb)
  clear hb
  replace HS := Lib.hid (HS.out.more 41 #[.bool false, .int .u64 0, .int .u64 0, .int .i64 0])
  go_wp2_with fail
  (with_reducible refine (G_rn_c5.out.go _ (HG.out _ HS.out.bel)).mono ?_)
  rintro e w4 ⟨rfl, hb⟩
  replace HS := Lib.hid (HS.out.next hb)
  clear hb
  replace HS := Lib.hid (HS.out.more 41 #[.bool false, .int .u64 0, .int .u64 0, .int .i64 0])
  go_wp2_with fail
  (with_reducible refine (G_rn_c6.out.go _ (HG.out _ HS.out.bel)).mono ?_)
  rintro e w5 ⟨rfl, hb⟩
  replace HS := Lib.hid (HS.out.next hb)
  clear hb
  replace HS := Lib.hid (HS.out.more 41 #[.bool false, .int .u64 0, .int .u64 0, .int .i64 0])
  go_wp2_with fail
  (with_reducible refine (G_rn_c7.out.go _ (HG.out _ HS.out.bel)).mono ?_)
  rintro e w6 ⟨rfl, hb⟩
  replace HS := Lib.hid (HS.out.next hb)
  clear hb
  replace HS := Lib.hid (HS.out.more 41 #[.bool false, .int .u64 0, .int .u64 167772160, .int .i64 8])
  obtain ⟨a0, a1, a2, a3⟩ := bx_four HS.out (g := w6.heap.size) (t := 41) (c0 := .bool false) (c1 := .int .u64 0) (c2 := .int .u64 167772160) (c3 := .int .i64 8) (by exact List.mem_cons_self)
  go_wp2_with fail
  (with_reducible refine (G_rn_text.out.go _ (HG.out _ HS.out.bel)).mono ?_)
  rintro e w7 ⟨rfl, hb⟩
  replace HS := Lib.hid (HS.out.next hb)
  clear hb
  clear a0 a1 a2 a3
  go_wp2_with fail
  (with_reducible refine (G_rn_c9.out.go _ (HG.out _ HS.out.bel)).mono ?_)
  rintro e w8 ⟨rfl, hb⟩
  replace HS := Lib.hid (HS.out.next hb)
  clear hb
  replace HS := Lib.hid (HS.out.more 41 #[.bool true, .int .u64 18230571291595767808, .int .u64 0, .int .i64 64])
  go_wp2_with fail
  (with_reducible refine (G_rn_c10.out.go _ (HG.out _ HS.out.bel)).mono ?_)
  rintro e w9 ⟨rfl, hb⟩
  replace HS := Lib.hid (HS.out.next hb)
  clear hb
  replace HS := Lib.hid (HS.out.more 41 #[.bool false, .int .u64 0, .int .u64 184483840, .int .i64 16])
  go_wp2_with fail
  obtain ⟨Ix11, f11, i11, hf, hC, hGo⟩ := class_bx HS.out (HG.out _ HS.out.bel)
  haveI : Nonempty Ix11 := ⟨i11⟩
  have a0 : ∀ m, (f11 m).cell? ⟨w6.heap.size, 0, none⟩ = some (.bool false) := fun m => (bx_four (hC m) (g := w6.heap.size) (t := 41) (c0 := .bool false) (c1 := .int .u64 0) (c2 := .int .u64 167772160) (c3 := .int .i64 8) (by exact List.mem_cons_of_mem _ (List.mem_cons_of_mem _ (List.mem_cons_self)))).1
  have a1 : ∀ m, (f11 m).cell? ⟨w6.heap.size, 1, none⟩ = some (.int .u64 0) := fun m => (bx_four (hC m) (g := w6.heap.size) (t := 41) (c0 := .bool false) (c1 := .int .u64 0) (c2 := .int .u64 167772160) (c3 := .int .i64 8) (by exact List.mem_cons_of_mem _ (List.mem_cons_of_mem _ (List.mem_cons_self)))).2.1
  have a2 : ∀ m, (f11 m).cell? ⟨w6.heap.size, 2, none⟩ = some (.int .u64 167772160) := fun m => (bx_four (hC m) (g := w6.heap.size) (t := 41) (c0 := .bool false) (c1 := .int .u64 0) (c2 := .int .u64 167772160) (c3 := .int .i64 8) (by exact List.mem_cons_of_mem _ (List.mem_cons_of_mem _ (List.mem_cons_self)))).2.2.1
  have a3 : ∀ m, (f11 m).cell? ⟨w6.heap.size, 3, none⟩ = some (.int .i64 8) := fun m => (bx_four (hC m) (g := w6.heap.size) (t := 41) (c0 := .bool false) (c1 := .int .u64 0) (c2 := .int .u64 167772160) (c3 := .int .i64 8) (by exact List.mem_cons_of_mem _ (List.mem_cons_of_mem _ (List.mem_cons_self)))).2.2.2
  have V_rn_f1 := Lib.hid (hGo G_rn_f1.out)
  have V_rn_i1 := Lib.hid (hGo G_rn_i1.out)
  replace HS := Lib.hid hC
  clear hC hGo
  refine wp_region_class f11 (by kernel_rfl) (lexB_of (by kernel_rfl) (by as_aux_lemma => kernel_rfl)) i11 hf ?_
  clear hf
  repeat (go_big_quiet_step (first | (with_reducible exact V_rn_f1.out _) | (with_reducible exact V_rn_i1.out _)))
  refine wpQuiet_nil ?_
  intro _ hw'
  obtain ⟨n11, hw''⟩ := hw'
  subst hw''
  replace HS := Lib.hid (HS.out n11)
  clear V_rn_f1 V_rn_i1 a0 a1 a2 a3
  go_wp2_with fail
  obtain ⟨Ix12, f12, i12, hf, hC, hGo⟩ := class_bx HS.out (HG.out _ HS.out.bel)
  haveI : Nonempty Ix12 := ⟨i12⟩
  have a0 : ∀ m, (f12 m).cell? ⟨w6.heap.size, 0, none⟩ = some (.bool false) := fun m => (bx_four (hC m) (g := w6.heap.size) (t := 41) (c0 := .bool false) (c1 := .int .u64 0) (c2 := .int .u64 167772160) (c3 := .int .i64 8) (by exact List.mem_cons_of_mem _ (List.mem_cons_of_mem _ (List.mem_cons_self)))).1
  have a1 : ∀ m, (f12 m).cell? ⟨w6.heap.size, 1, none⟩ = some (.int .u64 0) := fun m => (bx_four (hC m) (g := w6.heap.size) (t := 41) (c0 := .bool false) (c1 := .int .u64 0) (c2 := .int .u64 167772160) (c3 := .int .i64 8) (by exact List.mem_cons_of_mem _ (List.mem_cons_of_mem _ (List.mem_cons_self)))).2.1
  have a2 : ∀ m, (f12 m).cell? ⟨w6.heap.size, 2, none⟩ = some (.int .u64 167772160) := fun m => (bx_four (hC m) (g := w6.heap.size) (t := 41) (c0 := .bool false) (c1 := .int .u64 0) (c2 := .int .u64 167772160) (c3 := .int .i64 8) (by exact List.mem_cons_of_mem _ (List.mem_cons_of_mem _ (List.mem_cons_self)))).2.2.1
  have a3 : ∀ m, (f12 m).cell? ⟨w6.heap.size, 3, none⟩ = some (.int .i64 8) := fun m => (bx_four (hC m) (g := w6.heap.size) (t := 41) (c0 := .bool false) (c1 := .int .u64 0) (c2 := .int .u64 167772160) (c3 := .int .i64 8) (by exact List.mem_cons_of_mem _ (List.mem_cons_of_mem _ (List.mem_cons_self)))).2.2.2
  have V_rn_f2 := Lib.hid (hGo G_rn_f2.out)
  have V_rn_i2 := Lib.hid (hGo G_rn_i2.out)
  replace HS := Lib.hid hC
  clear hC hGo
  refine wp_region_class f12 (by kernel_rfl) (lexB_of (by kernel_rfl) (by as_aux_lemma => kernel_rfl)) i12 hf ?_
  clear hf
  repeat (go_big_quiet_step (first | (with_reducible exact V_rn_f2.out _) | (with_reducible exact V_rn_i2.out _)))
  refine wpQuiet_nil ?_
  intro _ hw'
  obtain ⟨n12, hw''⟩ := hw'
  subst hw''
  replace HS := Lib.hid (HS.out n12)
  clear V_rn_f2 V_rn_i2 a0 a1 a2 a3
  obtain ⟨a0, a1, a2, a3⟩ := bx_four HS.out (g := w6.heap.size) (t := 41) (c0 := .bool false) (c1 := .int .u64 0) (c2 := .int .u64 167772160) (c3 := .int .i64 8) (by exact List.mem_cons_of_mem _ (List.mem_cons_of_mem _ (List.mem_cons_self)))
  go_wp2_with fail
  (with_reducible refine (G_rn_at.out.go _ (HG.out _ HS.out.bel)).mono ?_)
  rintro e w10 ⟨rfl, hb⟩
  replace HS := Lib.hid (HS.out.next hb)
  clear hb
  clear a0 a1 a2 a3
  replace HS := Lib.hid (HS.out.more 24 #[.bool false, .int .u64 0, .int .u64 0])
  go_wp2_with fail
  (with_reducible refine (G_rn_c14.out.go _ (HG.out _ HS.out.bel)).mono ?_)
  rintro e w11 ⟨rfl, hb⟩
  replace HS := Lib.hid (HS.out.next hb)
  clear hb
  replace HS := Lib.hid (HS.out.more 41 #[.bool false, .int .u64 0, .int .u64 167772164, .int .i64 32])
  go_wp2_with fail
  (with_reducible refine (G_rn_c15.out.go _ (HG.out _ HS.out.bel)).mono ?_)
  rintro e w12 ⟨rfl, hb⟩
  replace HS := Lib.hid (HS.out.next hb)
  clear hb
  replace HS := Lib.hid (HS.out.more 41 #[.bool false, .int .u64 0, .int .u64 167772160, .int .i64 29])
  go_wp2_with fail
  simp only [List.append_eq, List.cons_append, List.nil_append]
  refine region_at (by kernel_rfl) ?_
  obtain ⟨Ix, f, i0, hf, hC, hGo⟩ := class_bx HS.out (HG.out _ HS.out.bel)
  haveI : Nonempty Ix := ⟨i0⟩
  have a0 : ∀ m, (f m).cell? ⟨w6.heap.size, 0, none⟩ = some (.bool false) := fun m => (bx_four (hC m) (g := w6.heap.size) (t := 41) (c0 := .bool false) (c1 := .int .u64 0) (c2 := .int .u64 167772160) (c3 := .int .i64 8) (by exact List.mem_cons_of_mem _ (List.mem_cons_of_mem _ (List.mem_cons_of_mem _ (List.mem_cons_of_mem _ (List.mem_cons_of_mem _ (List.mem_cons_self))))))).1
  have a1 : ∀ m, (f m).cell? ⟨w6.heap.size, 1, none⟩ = some (.int .u64 0) := fun m => (bx_four (hC m) (g := w6.heap.size) (t := 41) (c0 := .bool false) (c1 := .int .u64 0) (c2 := .int .u64 167772160) (c3 := .int .i64 8) (by exact List.mem_cons_of_mem _ (List.mem_cons_of_mem _ (List.mem_cons_of_mem _ (List.mem_cons_of_mem _ (List.mem_cons_of_mem _ (List.mem_cons_self))))))).2.1
  have a2 : ∀ m, (f m).cell? ⟨w6.heap.size, 2, none⟩ = some (.int .u64 167772160) := fun m => (bx_four (hC m) (g := w6.heap.size) (t := 41) (c0 := .bool false) (c1 := .int .u64 0) (c2 := .int .u64 167772160) (c3 := .int .i64 8) (by exact List.mem_cons_of_mem _ (List.mem_cons_of_mem _ (List.mem_cons_of_mem _ (List.mem_cons_of_mem _ (List.mem_cons_of_mem _ (List.mem_cons_self))))))).2.2.1
  have a3 : ∀ m, (f m).cell? ⟨w6.heap.size, 3, none⟩ = some (.int .i64 8) := fun m => (bx_four (hC m) (g := w6.heap.size) (t := 41) (c0 := .bool false) (c1 := .int .u64 0) (c2 := .int .u64 167772160) (c3 := .int .i64 8) (by exact List.mem_cons_of_mem _ (List.mem_cons_of_mem _ (List.mem_cons_of_mem _ (List.mem_cons_of_mem _ (List.mem_cons_of_mem _ (List.mem_cons_self))))))).2.2.2
  have b0 : ∀ m, (f m).cell? ⟨w8.heap.size, 0, none⟩ = some (.bool true) := fun m => (bx_four (hC m) (g := w8.heap.size) (t := 41) (c0 := .bool true) (c1 := .int .u64 18230571291595767808) (c2 := .int .u64 0) (c3 := .int .i64 64) (by exact List.mem_cons_of_mem _ (List.mem_cons_of_mem _ (List.mem_cons_of_mem _ (List.mem_cons_of_mem _ (List.mem_cons_self)))))).1
  have b1 : ∀ m, (f m).cell? ⟨w8.heap.size, 1, none⟩ = some (.int .u64 18230571291595767808) := fun m => (bx_four (hC m) (g := w8.heap.size) (t := 41) (c0 := .bool true) (c1 := .int .u64 18230571291595767808) (c2 := .int .u64 0) (c3 := .int .i64 64) (by exact List.mem_cons_of_mem _ (List.mem_cons_of_mem _ (List.mem_cons_of_mem _ (List.mem_cons_of_mem _ (List.mem_cons_self)))))).2.1
  have b2 : ∀ m, (f m).cell? ⟨w8.heap.size, 2, none⟩ = some (.int .u64 0) := fun m => (bx_four (hC m) (g := w8.heap.size) (t := 41) (c0 := .bool true) (c1 := .int .u64 18230571291595767808) (c2 := .int .u64 0) (c3 := .int .i64 64) (by exact List.mem_cons_of_mem _ (List.mem_cons_of_mem _ (List.mem_cons_of_mem _ (List.mem_cons_of_mem _ (List.mem_cons_self)))))).2.2.1
  have b3 : ∀ m, (f m).cell? ⟨w8.heap.size, 3, none⟩ = some (.int .i64 64) := fun m => (bx_four (hC m) (g := w8.heap.size) (t := 41) (c0 := .bool true) (c1 := .int .u64 18230571291595767808) (c2 := .int .u64 0) (c3 := .int .i64 64) (by exact List.mem_cons_of_mem _ (List.mem_cons_of_mem _ (List.mem_cons_of_mem _ (List.mem_cons_of_mem _ (List.mem_cons_self)))))).2.2.2
  have c0 : ∀ m, (f m).cell? ⟨w9.heap.size, 0, none⟩ = some (.bool false) := fun m => (bx_four (hC m) (g := w9.heap.size) (t := 41) (c0 := .bool false) (c1 := .int .u64 0) (c2 := .int .u64 184483840) (c3 := .int .i64 16) (by exact List.mem_cons_of_mem _ (List.mem_cons_of_mem _ (List.mem_cons_of_mem _ (List.mem_cons_self))))).1
  have c1 : ∀ m, (f m).cell? ⟨w9.heap.size, 1, none⟩ = some (.int .u64 0) := fun m => (bx_four (hC m) (g := w9.heap.size) (t := 41) (c0 := .bool false) (c1 := .int .u64 0) (c2 := .int .u64 184483840) (c3 := .int .i64 16) (by exact List.mem_cons_of_mem _ (List.mem_cons_of_mem _ (List.mem_cons_of_mem _ (List.mem_cons_self))))).2.1
  have c2 : ∀ m, (f m).cell? ⟨w9.heap.size, 2, none⟩ = some (.int .u64 184483840) := fun m => (bx_four (hC m) (g := w9.heap.size) (t := 41) (c0 := .bool false) (c1 := .int .u64 0) (c2 := .int .u64 184483840) (c3 := .int .i64 16) (by exact List.mem_cons_of_mem _ (List.mem_cons_of_mem _ (List.mem_cons_of_mem _ (List.mem_cons_self))))).2.2.1
  have c3 : ∀ m, (f m).cell? ⟨w9.heap.size, 3, none⟩ = some (.int .i64 16) := fun m => (bx_four (hC m) (g := w9.heap.size) (t := 41) (c0 := .bool false) (c1 := .int .u64 0) (c2 := .int .u64 184483840) (c3 := .int .i64 16) (by exact List.mem_cons_of_mem _ (List.mem_cons_of_mem _ (List.mem_cons_of_mem _ (List.mem_cons_self))))).2.2.2
  have V_rn_s1 := Lib.hid (hGo G_rn_s1.out)
  have V_rn_s2 := Lib.hid (hGo G_rn_s2.out)
  have V_rn_m1 := Lib.hid (hGo G_rn_m1.out)
  have V_rn_m2 := Lib.hid (hGo G_rn_m2.out)
  have V_rn_m3 := Lib.hid (hGo G_rn_m3.out)
  have V_rn_f3 := Lib.hid (hGo G_rn_f3.out)
  have V_rn_h1 := Lib.hid (hGo G_rn_h1.out)
  have V_rn_f4 := Lib.hid (hGo G_rn_f4.out)
  have V_rn_h2 := Lib.hid (hGo G_rn_h2.out)
  replace HS := Lib.hid hC
  clear hC hGo
  refine at_seg (fun w' => ∃ n, w' = f n) 0 78 _ rfl (by decide) (by decide) (by as_aux_lemma => kernel_rfl) (by as_aux_lemma => kernel_rfl) (fun _ => by as_aux_lemma => kernel_rfl) (by as_aux_lemma => kernel_rfl) ⟨i0, hf⟩ ?_
  clear hf
  change wpQuiet _ _ _ _ (_ :: _ :: _ :: _ :: _ :: _ :: _ :: _ :: _ :: _ :: _ :: _ :: _ :: _ :: _ :: _ :: _ :: _ :: _ :: _ :: _ :: _ :: _ :: _ :: _ :: _ :: _ :: _ :: _ :: _ :: _ :: _ :: _ :: _ :: _ :: _ :: _ :: _ :: _ :: _ :: _ :: _ :: _ :: _ :: _ :: _ :: _ :: _ :: _ :: _ :: _ :: _ :: _ :: _ :: _ :: _ :: _ :: _ :: _ :: _ :: _ :: _ :: _ :: _ :: _ :: _ :: _ :: _ :: _ :: _ :: _ :: _ :: _ :: _ :: _ :: _ :: _ :: _ :: []) _
  repeat (go_big_quiet_step (first | (with_reducible exact V_rn_s1.out _) | (with_reducible exact V_rn_s2.out _) | (with_reducible exact V_rn_m1.out _) | (with_reducible exact V_rn_m2.out _) | (with_reducible exact V_rn_m3.out _) | (with_reducible exact V_rn_f3.out _) | (with_reducible exact V_rn_h1.out _) | (with_reducible exact V_rn_f4.out _) | (with_reducible exact V_rn_h2.out _)))
  refine wpQuiet_nil ?_
  intro _ hw'
  obtain ⟨nE, hw''⟩ := hw'
  subst hw''
  replace HS := Lib.hid (HS.out nE)
  clear V_rn_s1 V_rn_s2 V_rn_m1 V_rn_m2 V_rn_m3 V_rn_f3 V_rn_h1 V_rn_f4 V_rn_h2 a0 a1 a2 a3 b0 b1 b2 b3 c0 c1 c2 c3
  refine rn_inv rfl (by as_aux_lemma => kernel_rfl) rfl ?_ ?_
  · intro i o a wx K ho hi1 hi2 hF hb hdep hs hK
    have hsl : ∀ s v, slot a s = v → s < 177 → a.tmps[s]? = some v := fun s v h h' => slot_some h (by rw [hs]; exact h')
    have HSx := HS.out.next hb
    have hcase : i = 78 ∨ i = 79 ∨ i = 80 ∨ i = 81 ∨ i = 82 ∨ i = 83 ∨ i = 84 ∨ i = 85 ∨ i = 86 ∨ i = 87 ∨ i = 88 ∨ i = 89 ∨ i = 90 := by omega
    rcases hcase with rfl | rfl | rfl | rfl | rfl | rfl | rfl | rfl | rfl | rfl | rfl | rfl | rfl
    · obtain rfl : _ = o := Option.some.inj ho
      have q := slot_nf (show slot a 164 = .bool true from hF.old 164 (by decide))
      exact rg_op rfl rfl (rg_value (v := .bool true) (w' := wx) (by simp [execOp, go_sem, q]) (hK _ _ (Below.refl _ _) ((rnV_eq (by decide)).2 rfl)))
    · obtain rfl : _ = o := Option.some.inj ho
      have t78 : slot a 165 = .bool true := (rnV_eq (by decide)).1 (hdep ⟨78, .guard⟩ (by simp) rfl (by decide))
      have u78 := slot_nf t78
      obtain ⟨d0, d1, d2, d3⟩ := bx_four HSx (g := w12.heap.size) (t := 41) (c0 := .bool false) (c1 := .int .u64 0) (c2 := .int .u64 167772160) (c3 := .int .i64 29) (by exact List.mem_cons_self)
      have q := slot_nf (show slot a 25 = .pointer (some ⟨w12.heap.size, 0, none⟩) from hF.old 25 (by decide))
      exact rg_opg rfl rfl rfl (hsl 165 _ t78 (by decide)) (rg_value (v := .agg #[.bool false, .int .u64 0, .int .u64 167772160, .int .i64 29]) (w' := wx) (by simp [execOp, go_sem, q, d0, d1, d2, d3, Tryz.isAgg41, Tryz.sizeOf41]) (hK _ _ (Below.refl _ _) ((rnV_eq (by decide)).2 rfl)))
    · obtain rfl : _ = o := Option.some.inj ho
      have t78 : slot a 165 = .bool true := (rnV_eq (by decide)).1 (hdep ⟨78, .guard⟩ (by simp) rfl (by decide))
      have u78 := slot_nf t78
      obtain ⟨d0, d1, d2, d3⟩ := bx_four HSx (g := w11.heap.size) (t := 41) (c0 := .bool false) (c1 := .int .u64 0) (c2 := .int .u64 167772164) (c3 := .int .i64 32) (by exact List.mem_cons_of_mem _ (List.mem_cons_self))
      have q := slot_nf (show slot a 23 = .pointer (some ⟨w11.heap.size, 0, none⟩) from hF.old 23 (by decide))
      exact rg_opg rfl rfl rfl (hsl 165 _ t78 (by decide)) (rg_value (v := .agg #[.bool false, .int .u64 0, .int .u64 167772164, .int .i64 32]) (w' := wx) (by simp [execOp, go_sem, q, d0, d1, d2, d3, Tryz.isAgg41, Tryz.sizeOf41]) (hK _ _ (Below.refl _ _) ((rnV_eq (by decide)).2 rfl)))
    · obtain rfl : _ = o := Option.some.inj ho
      have t78 : slot a 165 = .bool true := (rnV_eq (by decide)).1 (hdep ⟨78, .guard⟩ (by simp) rfl (by decide))
      have u78 := slot_nf t78
      have t80 : slot a 167 = .agg #[.bool false, .int .u64 0, .int .u64 167772164, .int .i64 32] := (rnV_eq (by decide)).1 (hdep ⟨80, .data⟩ (by simp) rfl (by decide))
      have u80 := slot_nf t80
      exact rg_opg rfl rfl rfl (hsl 165 _ t78 (by decide)) (rg_value (rn_bs (s := false) (hi := 0) (lo := 167772164) (n := 32) rfl t80) (hK _ _ ((Below.refl _ _).alloc (Nat.le_refl _) _) (rnV_row.2 (rn_row (fitL (by decide) (by decide))))))
    · obtain rfl : _ = o := Option.some.inj ho
      have t78 : slot a 165 = .bool true := (rnV_eq (by decide)).1 (hdep ⟨78, .guard⟩ (by simp) rfl (by decide))
      have u78 := slot_nf t78
      have t79 : slot a 166 = .agg #[.bool false, .int .u64 0, .int .u64 167772160, .int .i64 29] := (rnV_eq (by decide)).1 (hdep ⟨79, .data⟩ (by simp) rfl (by decide))
      have u79 := slot_nf t79
      have t81 : RgRow wx (slot a 168) [((false, 0, 167772164), 32)] := rnV_row.1 (hdep ⟨81, .data⟩ (by simp) rfl (by decide))
      obtain ⟨v, hv⟩ : ∃ v, slot a 168 = v := ⟨_, rfl⟩
      rw [hv] at t81
      have u81 := slot_nf hv
      refine rg_opg rfl rfl rfl (hsl 165 _ t78 (by decide)) (rg_call rfl (fun _ _ => by kernel_rfl) (args := #[.agg #[.bool false, .int .u64 0, .int .u64 167772160, .int .i64 29], v]) (by simp [Act.eval, go_sem, u79, u81]) ?_)
      refine (rFree_any false 0 167772160 29 v [((false, 0, 167772164), 32)] wx (HG.out _ HSx.bel) (fitL (by decide) (by decide)) t81 (by decide)).mono ?_
      rintro e w' ⟨rfl, hb'⟩
      rw [rn_free]
      exact ⟨_, rfl, hK _ _ hb' ((rnV_eq (by decide)).2 rfl)⟩
    · obtain rfl : _ = o := Option.some.inj ho
      have t82 : slot a 169 = .int .i64 7 := (rnV_eq (by decide)).1 (hdep ⟨82, .data⟩ (by simp) rfl (by decide))
      have u82 := slot_nf t82
      have t78 : slot a 165 = .bool true := (rnV_eq (by decide)).1 (hdep ⟨78, .guard⟩ (by simp) rfl (by decide))
      have u78 := slot_nf t78
      exact rg_opg rfl rfl rfl (hsl 165 _ t78 (by decide)) (rg_value (v := .bool true) (w' := wx) (by simp [execOp, go_sem, u82]) (hK _ _ (Below.refl _ _) ((rnV_eq (by decide)).2 rfl)))
    · obtain rfl : _ = o := Option.some.inj ho
      have t78 : slot a 165 = .bool true := (rnV_eq (by decide)).1 (hdep ⟨78, .data⟩ (by simp) rfl (by decide))
      have u78 := slot_nf t78
      have t83 : slot a 170 = .bool true := (rnV_eq (by decide)).1 (hdep ⟨83, .data⟩ (by simp) rfl (by decide))
      have u83 := slot_nf t83
      exact rg_op rfl rfl (rg_value (v := .bool true) (w' := wx) (by simp [execOp, go_sem, u78, u83]) (hK _ _ (Below.refl _ _) ((rnV_eq (by decide)).2 rfl)))
    · obtain rfl : _ = o := Option.some.inj ho
      have t84 : slot a 171 = .bool true := (rnV_eq (by decide)).1 (hdep ⟨84, .data⟩ (by simp) rfl (by decide))
      have u84 := slot_nf t84
      exact rg_op rfl rfl (rg_value (v := .bool true) (w' := wx) (by simp [execOp, go_sem, u84]) (hK _ _ (Below.refl _ _) ((rnV_eq (by decide)).2 rfl)))
    · obtain rfl : _ = o := Option.some.inj ho
      have t85 : slot a 172 = .bool true := (rnV_eq (by decide)).1 (hdep ⟨85, .guard⟩ (by simp) rfl (by decide))
      have u85 := slot_nf t85
      exact rg_opg rfl rfl rfl (hsl 172 _ t85 (by decide)) (rg_value (v := .agg #[.bool false, .int .u64 0, .int .u64 0, .int .i64 40]) (w' := wx) (rn_bd (n := 40) (fun _ => rfl) rfl) (hK _ _ (Below.refl _ _) ((rnV_eq (by decide)).2 rfl)))
    · obtain rfl : _ = o := Option.some.inj ho
      have t86 : slot a 173 = .agg #[.bool false, .int .u64 0, .int .u64 0, .int .i64 40] := (rnV_eq (by decide)).1 (hdep ⟨86, .data⟩ (by simp) rfl (by decide))
      have u86 := slot_nf t86
      have t85 : slot a 172 = .bool true := (rnV_eq (by decide)).1 (hdep ⟨85, .guard⟩ (by simp) rfl (by decide))
      have u85 := slot_nf t85
      refine rg_opg rfl rfl rfl (hsl 172 _ t85 (by decide)) (rg_call rfl (fun _ _ => by kernel_rfl) (args := #[.agg #[.bool false, .int .u64 0, .int .u64 0, .int .i64 40]]) (by simp [Act.eval, go_sem, u86]) ?_)
      refine (G_rn_s3.out.go wx (HG.out _ HSx.bel)).mono ?_
      rintro e w' ⟨rfl, hb'⟩
      exact ⟨_, rfl, hK _ _ hb' ((rnV_eq (by decide)).2 rfl)⟩
    · obtain rfl : _ = o := Option.some.inj ho
      have t87 : slot a 174 = .int .i64 0 := (rnV_eq (by decide)).1 (hdep ⟨87, .data⟩ (by simp) rfl (by decide))
      have u87 := slot_nf t87
      have t85 : slot a 172 = .bool true := (rnV_eq (by decide)).1 (hdep ⟨85, .guard⟩ (by simp) rfl (by decide))
      have u85 := slot_nf t85
      exact rg_opg rfl rfl rfl (hsl 172 _ t85 (by decide)) (rg_value (v := .bool true) (w' := wx) (by simp [execOp, go_sem, u87]) (hK _ _ (Below.refl _ _) ((rnV_eq (by decide)).2 rfl)))
    · obtain rfl : _ = o := Option.some.inj ho
      have t85 : slot a 172 = .bool true := (rnV_eq (by decide)).1 (hdep ⟨85, .data⟩ (by simp) rfl (by decide))
      have u85 := slot_nf t85
      have t88 : slot a 175 = .bool true := (rnV_eq (by decide)).1 (hdep ⟨88, .data⟩ (by simp) rfl (by decide))
      have u88 := slot_nf t88
      exact rg_op rfl rfl (rg_value (v := .bool true) (w' := wx) (by simp [execOp, go_sem, u85, u88]) (hK _ _ (Below.refl _ _) ((rnV_eq (by decide)).2 rfl)))
    · obtain rfl : _ = o := Option.some.inj ho
      have t89 : slot a 176 = .bool true := (rnV_eq (by decide)).1 (hdep ⟨89, .data⟩ (by simp) rfl (by decide))
      have u89 := slot_nf t89
      exact rg_op rfl rfl (rg_value (v := .bool true) (w' := wx) (by simp [execOp, go_sem, u89]) (hK _ _ (Below.refl _ _) ((rnV_eq (by decide)).2 rfl)))
  · intro a wx hF hb h0 hs
    obtain ⟨t, df⟩ := a
    obtain rfl : df = [] := hF.dfr
    go_wp2
    exact bodyPost_ret (v := .bool true) ((results_tmp rfl _ _ _).trans (by rw [show t.getD 0 undef = .bool true from h0])) rfl ⟨rfl, (HS.out.next hb).bel⟩
end Go.Proofs.YtpmlldgjbmingaaGreatDoor
