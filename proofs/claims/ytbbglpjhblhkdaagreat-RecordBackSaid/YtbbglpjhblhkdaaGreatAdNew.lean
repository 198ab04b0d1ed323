/-
  Newer addresses of their parts: the walks of addr.newer. Conditions: as each theorem names them.
-/
import Derived.Test.YtbbglpjhblhkdaaGreatAdNum
namespace Go.Proofs.YtbbglpjhblhkdaaGreat
open Go.RowKit
set_option linter.unusedVariables false

set_option maxHeartbeats 1000000 in
theorem newerB16_any (l : List UInt8) (v : Value) (w : World) (h : RowE B w v l) (hl : l.length = 16) :
    Calls Tryz.prog 175 #[v] w fun e w' => e = .returned (av (newerA 256 (nats l))) ∧ Below w.heap.size w w' := by
  obtain ⟨g, off, cap, rfl, hat⟩ := h.at' (fun e => by rw [e] at hl; cases hl)
  have HA := Lib.hid (fun (wx : World) (e : wx.heap = (w.alloc (.cells #[.bool false, .int .u64 0, .int .u64 0] 27)).heap) => (hat.alloc _).heap e)
  have H1 := Lib.hid (fun wx hx => joinedB_at 8 8 rfl (.inr rfl) (l.take 8) (.slice (some ⟨g, off, none⟩) (8 : Nat) cap) wx hx (nats_lt _) (pow256 (by rw [List.length_take, hl]; decide)))
  have H2 := Lib.hid (fun wx hx => joinedB_at 8 8 rfl (.inr rfl) (l.drop 8) (.slice (some ⟨g, off + 8, none⟩) (8 : Nat) (cap - 8)) wx hx (nats_lt _) (pow256 (by rw [List.length_drop, hl]; decide)))
  have HX1 := Lib.hid (fun (wx : World) (hx : At B wx g off cap l) => hx.take (n := 8) (by omega))
  have HX2 : Hid (∀ (wx : World) (hx : At B wx g off cap l), RowE B wx (.slice (some ⟨g, off + 8, none⟩) (8 : Nat) (cap - 8)) (l.drop 8)) := Lib.hid (fun (wx : World) (hx : At B wx g off cap l) => by
    have := hx.drop (n := 8) (by omega)
    rw [hl] at this
    exact this)
  have hcap : 16 ≤ cap := by have := hat.le; omega
  have hfit : cap ≤ 9223372036854775807 := by have := hat.fit; unfold maxLen at this; exact this
  have HE : Hid (newerA 256 (nats l) = (true, jn 256 (nats (l.take 8)), jn 256 (nats (l.drop 8)))) := Lib.hid (by
    unfold newerA
    rw [nats_length, hl, nats_take, nats_drop])
  rw [HE.out, hl]
  have hc1 : ((8 : Nat) : Int) ≤ (cap : Int) := by omega
  clear h hat hl
  go_enter Tryz.func175, Tryz.ntmps175
  go_wp2
  go_quiet (fail)
  go_wp2
  go_region_with (first | (go_at_call 182; (with_reducible refine (H1.out _ (HX1.out _ (HA.out _ ?_))).mono ?_); exact rfl; rintro e w' ⟨rfl, rfl⟩) | (go_at_call 182; (with_reducible refine (H2.out _ (HX2.out _ (HA.out _ ?_))).mono ?_); exact rfl; rintro e w' ⟨rfl, rfl⟩))
  all_goals
    try go_wp2
    refine bodyPost_ret (ret_ad rfl _ _ w.heap.size (true, jn 256 (nats (l.take 8)), jn 256 (nats (l.drop 8))) rfl (AdB.put (six := false) (hi := 0) (lo := 0) (Lies.drewN (Lies.new w _ _) _) _ _ _)) rfl ?_
    exact ⟨rfl, put3 (below_dN ((Below.refl _ _).alloc (Nat.le_refl _) _) _) (Nat.le_refl _) _ _ _⟩

set_option maxHeartbeats 1000000 in
theorem newerB32_any (l : List UInt8) (v : Value) (w : World) (h : RowE B w v l) (hl : l.length = 32) (hd : ∀ c ∈ nats l, c < 2 ^ 4) :
    Calls Tryz.prog 175 #[v] w fun e w' => e = .returned (av (newerA 16 (nats l))) ∧ Below w.heap.size w w' := by
  obtain ⟨g, off, cap, rfl, hat⟩ := h.at' (fun e => by rw [e] at hl; cases hl)
  have HA := Lib.hid (fun (wx : World) (e : wx.heap = (w.alloc (.cells #[.bool false, .int .u64 0, .int .u64 0] 27)).heap) => (hat.alloc _).heap e)
  have H1 := Lib.hid (fun wx hx => joinedB_at 4 4 rfl (.inl rfl) (l.take 16) (.slice (some ⟨g, off, none⟩) (16 : Nat) cap) wx hx (fun c hc => hd c (by rw [← nats_take] at hc; exact List.take_subset _ _ hc)) (pow16 (by rw [List.length_take, hl]; decide)))
  have H2 := Lib.hid (fun wx hx => joinedB_at 4 4 rfl (.inl rfl) (l.drop 16) (.slice (some ⟨g, off + 16, none⟩) (16 : Nat) (cap - 16)) wx hx (fun c hc => hd c (by rw [← nats_drop] at hc; exact List.drop_subset _ _ hc)) (pow16 (by rw [List.length_drop, hl]; decide)))
  have HX1 := Lib.hid (fun (wx : World) (hx : At B wx g off cap l) => hx.take (n := 16) (by omega))
  have HX2 : Hid (∀ (wx : World) (hx : At B wx g off cap l), RowE B wx (.slice (some ⟨g, off + 16, none⟩) (16 : Nat) (cap - 16)) (l.drop 16)) := Lib.hid (fun (wx : World) (hx : At B wx g off cap l) => by
    have := hx.drop (n := 16) (by omega)
    rw [hl] at this
    exact this)
  have hcap : 32 ≤ cap := by have := hat.le; omega
  have hfit : cap ≤ 9223372036854775807 := by have := hat.fit; unfold maxLen at this; exact this
  have HE : Hid (newerA 16 (nats l) = (true, jn 16 (nats (l.take 16)), jn 16 (nats (l.drop 16)))) := Lib.hid (by
    unfold newerA
    rw [nats_length, hl, nats_take, nats_drop])
  rw [HE.out, hl]
  have hc1 : ((16 : Nat) : Int) ≤ (cap : Int) := by omega
  clear h hat hl
  go_enter Tryz.func175, Tryz.ntmps175
  go_wp2
  go_quiet (fail)
  go_wp2
  go_region_with (first | (go_at_call 182; (with_reducible refine (H1.out _ (HX1.out _ (HA.out _ ?_))).mono ?_); exact rfl; rintro e w' ⟨rfl, rfl⟩) | (go_at_call 182; (with_reducible refine (H2.out _ (HX2.out _ (HA.out _ ?_))).mono ?_); exact rfl; rintro e w' ⟨rfl, rfl⟩))
  all_goals
    try go_wp2
    refine bodyPost_ret (ret_ad rfl _ _ w.heap.size (true, jn 16 (nats (l.take 16)), jn 16 (nats (l.drop 16))) rfl (AdB.put (six := false) (hi := 0) (lo := 0) (Lies.drewN (Lies.new w _ _) _) _ _ _)) rfl ?_
    exact ⟨rfl, put3 (below_dN ((Below.refl _ _).alloc (Nat.le_refl _) _) _) (Nat.le_refl _) _ _ _⟩

end Go.Proofs.YtbbglpjhblhkdaaGreat
