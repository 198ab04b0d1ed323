/-
  An address' octets: the walks of addr.allOctets, octetsOf, Octets. Conditions: as each theorem names them.
-/
import Derived.Test.YtpmlldgjbmingaaGreatDoorZk6
import Derived.Deep.RegionHeld3
namespace Go.Proofs.YtpmlldgjbmingaaGreatDoor
open Go.RowKit
set_option linter.unusedVariables false

section
variable {P : Program} {tb ts tt : TypeId}
/-- append of bytes onto what the call owns, as one step of a region that draws. -/
theorem step_appendB (T : BT P tb ts tt) {ops : Array Oper} {o : Oper} {a : Act} {w : World} {K : Act → World → Prop} {Q : Exit → Act → World → Prop} {E : Prop} (hgd : o.guard = none) (s x : Operand)
    (ho : o.op = .call { callee := .builtin .append, args := #[s, x], argTypes := #[ts, ts] })
    (base : Nat) (v : Value) (l : List UInt8) (hs : a.eval s = v) (hown : Own tb w base v l)
    (ad : Addr) (m c : Nat) (ds : List UInt8) (hx : a.eval x = .slice (some ad) m c) (hm : m = ds.length) (hds : ∀ j u, (ds.map B)[j]? = some u → w.cell? (ad.add j) = some u)
    (hlen : l.length + ds.length ≤ 70368744177664) (hbase : base ≤ w.heap.size)
    (h : ∀ v' w', Own tb w' base v' (l ++ ds) → w.grownBy w' v.ownBlock → K (a.put o.dst v') w') :
    if Region.wanted o (yielded ops a.tmps) = true then Oper.wp P o a w K Q else E := by
  subst hm
  have hw : Region.wanted o (yielded ops a.tmps) = true := by simp [Region.wanted, hgd]
  rw [if_pos hw]
  obtain ⟨i, hi, hz, hsz, hby⟩ := info_parts T.info
  obtain ⟨v', w', hr, h1, h2, _, _⟩ := run_append_own_at (P := P) w base ts o.type tb i (.int .u8 0) 1 1 T.us hi hz hsz hby rfl (by decide) v l.length (l.map B) hown ad ds.length c (ds.map B) (by simp) hds (fun u hu => by obtain ⟨b, _, rfl⟩ := List.mem_map.1 hu; rfl) (by unfold maxLen; omega) (by omega) hbase
  unfold Oper.wp
  simp [execOp, ho, resolve, invoke, builtin, hs, hx, hr, Result.andThen]
  refine h v' w' ?_ h2
  unfold Own
  rw [List.length_append, List.map_append]
  exact h1
end

/-- The bytes that a call has made. -/
def Made (w w' : World) (v : Value) (l : List UInt8) : Prop := Own 5 w' w.heap.size v l ∧ Below w.heap.size w w'
/-- What addr.cut does. -/
abbrev CutN (v : Nat) : Prop := ∀ wx : World, Calls Tryz.prog 108 #[.int .u64 v, .int .i64 8] wx fun e w' => e = .returned (.slice (some ⟨wx.heap.size, 0, none⟩) 8 8) ∧ Own 5 w' wx.heap.size (.slice (some ⟨wx.heap.size, 0, none⟩) 8 8) (octs v 8) ∧ Below wx.heap.size wx w'
theorem CutN.mk {v : Nat} (h : v < 18446744073709551616) : CutN v := fun wx => acut_any v 8 wx h (by decide)
/-- What stands between the two cuts, and behind them. -/
structure Two1 (w0 w1 : World) (g : Nat) (six : Bool) (hi lo : Nat) : Prop where
  ad : AdB w1 g six hi lo
  own : Own 5 w1 w0.heap.size (.slice (some ⟨w0.heap.size, 0, none⟩) 8 8) (octs hi 8)
  below : Below w0.heap.size w0 w1
theorem Two1.two {w0 w1 : World} {g : Nat} {six : Bool} {hi lo : Nat} (h : Two1 w0 w1 g six hi lo) : w1.cell? ⟨g, 1, none⟩ = some (.int .u64 hi) ∧ w1.cell? ⟨g, 2, none⟩ = some (.int .u64 lo) := h.ad.facts.1.2
theorem halves2 {w0 w1 w2 : World} {g : Nat} {six : Bool} {hi lo : Nat} (h : Two1 w0 w1 g six hi lo) (hb : Below w1.heap.size w1 w2) : Hid (w2.cell? ⟨g, 1, none⟩ = some (.int .u64 hi) ∧ w2.cell? ⟨g, 2, none⟩ = some (.int .u64 lo)) :=
  Lib.hid (AdB.facts (Lies.next h.ad hb)).1.2
theorem halves3 {w0 w1 w2 w3 : World} {g : Nat} {six : Bool} {hi lo : Nat} (h : Two1 w0 w1 g six hi lo) (hb : Below w1.heap.size w1 w2) (hg : w2.grownBy w3 (Value.slice (some ⟨w0.heap.size, 0, none⟩) 8 8).ownBlock) :
    Hid (w3.cell? ⟨g, 1, none⟩ = some (.int .u64 hi) ∧ w3.cell? ⟨g, 2, none⟩ = some (.int .u64 lo)) :=
  Lib.hid (AdB.facts (Lies.grown (Lies.next h.ad hb) hg (Own.ne_lies (h.own.below hb (Nat.le_refl _)) (Lies.next h.ad hb) (by decide)))).1.2
theorem pre_app {w0 w1 w2 : World} {g : Nat} {six : Bool} {hi lo : Nat} (h : Two1 w0 w1 g six hi lo) (ho : Own 5 w2 w1.heap.size (.slice (some ⟨w1.heap.size, 0, none⟩) 8 8) (octs lo 8)) (hb : Below w1.heap.size w1 w2) :
    Hid (Own 5 w2 w0.heap.size (.slice (some ⟨w0.heap.size, 0, none⟩) 8 8) (octs hi 8) ∧ 8 = (octs lo 8).length ∧ (∀ j u, ((octs lo 8).map B)[j]? = some u → w2.cell? ((⟨w1.heap.size, 0, none⟩ : Addr).add j) = some u) ∧ (octs hi 8).length + (octs lo 8).length ≤ 70368744177664 ∧ w0.heap.size ≤ w2.heap.size) :=
  ⟨h.own.below hb (Nat.le_refl _), (octs_length _ _).symm, World.ownsRow.cells ho (g := w1.heap.size) rfl, by rw [octs_length, octs_length]; decide, Nat.le_trans h.below.size hb.size⟩
set_option maxHeartbeats 1000000 in
set_option maxRecDepth 20000 in
theorem allOctets_any (six : Bool) (hi lo : Nat) (w : World) (h1 : hi < 18446744073709551616) (h2 : lo < 18446744073709551616) :
    Calls Tryz.prog 100 #[.agg #[.bool six, .int .u64 (hi : Int), .int .u64 (lo : Int)]] w fun e w' => ∃ v, e = .returned v ∧ Made w w' v (octs hi 8 ++ octs lo 8) := by
  have H1 := Lib.hid (CutN.mk h1)
  have H2 := Lib.hid (CutN.mk h2)
  obtain ⟨w0, hw0⟩ : ∃ w0, w0 = w.alloc (.cells #[.bool six, .int .u64 (hi : Int), .int .u64 (lo : Int)] 24) := ⟨_, rfl⟩
  have HK0 : Hid (AdB w0 w.heap.size six hi lo) := Lib.hid (by rw [hw0]; exact Lies.new _ _ _)
  have HB0 : Hid (Below w.heap.size w w0 ∧ w0.heap.size = w.heap.size + 1) := Lib.hid (by rw [hw0]; exact ⟨(Below.refl _ _).alloc (Nat.le_refl _) _, size1 _ _⟩)
  have HKd : Hid (w0.drew.cell? ⟨w.heap.size, 1, none⟩ = some (.int .u64 hi) ∧ w0.drew.cell? ⟨w.heap.size, 2, none⟩ = some (.int .u64 lo)) := Lib.hid HK0.out.facts.1.2
  go_enter Tryz.func100, Tryz.ntmps100
  go_wp2
  rw [← hw0]
  clear hw0
  go_region_held3 (fun w' => w'.cell? ⟨w.heap.size, 1, none⟩ = some (.int .u64 hi) ∧ w'.cell? ⟨w.heap.size, 2, none⟩ = some (.int .u64 lo)) (first | with_reducible exact HK3.out | with_reducible exact HK2.out | with_reducible exact HK1.out.two | with_reducible exact HKd.out) (first | (go_at_call 108; (with_reducible refine (H2.out _).mono ?_); rintro e w2 ⟨rfl, hown2, hb2⟩; have HP := pre_app HK1.out hown2 hb2; have HK2 := halves2 HK1.out hb2; have HB2 := Lib.hid hb2; clear hown2 hb2) | (go_at_call 108; (with_reducible refine (H1.out _).mono ?_); rintro e w1 ⟨rfl, hown1, hb1⟩; have HK1 := Lib.hid (show Two1 w0.drew w1 w.heap.size six hi lo from ⟨Lies.next (w := w0.drew) HK0.out hb1, hown1, hb1⟩); clear hown1 hb1) | ((refine step_appendB bt (by rfl) (.tmp 5) (.tmp 8) (by rfl) w0.heap.size (.slice (some ⟨w0.heap.size, 0, none⟩) 8 8) (octs hi 8) (by rfl) HP.out.1 ⟨w1.heap.size, 0, none⟩ 8 8 (octs lo 8) (by rfl) HP.out.2.1 HP.out.2.2.1 HP.out.2.2.2.1 HP.out.2.2.2.2 ?_); (intro v3 w3 ho3 hg3; have HK3 := halves3 HK1.out HB2.out hg3; have HO3 := Lib.hid ho3; have HG3 := Lib.hid hg3; clear ho3 hg3)) | fail)
  go_wp2
  go_ret
  have b1 : Below w.heap.size w w1 := HB0.out.1.drew.trans (HK1.out.below.mono (by show w.heap.size ≤ w0.heap.size; rw [HB0.out.2]; omega))
  have b2 := b1.trans (HB2.out.mono b1.size)
  have hl : w.heap.size ≤ w0.heap.size := by rw [HB0.out.2]; omega
  have ho : Own 5 w2 w0.heap.size (.slice (some ⟨w0.heap.size, 0, none⟩) 8 8) (octs hi 8) := HK1.out.own.below HB2.out (Nat.le_refl _)
  exact ⟨_, rfl, HO3.out.base_le hl, b2.trans (below_grown HG3.out ho hl (Nat.le_trans HK1.out.below.size HB2.out.size))⟩

theorem Made.slice {w w' : World} {v : Value} {l : List UInt8} (h : Made w w' v l) : ∃ A cap, v = .slice A l.length cap := h.1.shape
theorem chkA_cases (a : Ad) : chkA a = 0 ∨ chkA a = 2 := by unfold chkA; split <;> simp
end Go.Proofs.YtpmlldgjbmingaaGreatDoor
