/-
  A cursor reads: octets, texts, names. Conditions: the octets are no longer than 2^40. A name is put, read: the walks of names' functions, of the cursor's name. Conditions: as each theorem names them. Numbers are read: the walk of the widths' read. Conditions: each width is 0, 2 or 4; the octets are no longer than 2^40.
-/
import Derived.Test.YtodedbokeodmkaaGreatZk34
import Derived.Test.YtodedbokeodmkaaGreatQui
import Derived.Deep.RegionHeld3
namespace Go.Proofs.YtodedbokeodmkaaGreat
open Go.RowKit
set_option linter.unusedVariables false
set_option maxRecDepth 100000

section
variable {w w' : World} {base c g gd : Nat} {F : Nat → Prop} {S R : ByteArray} {k : Nat} {d : MD} {tv : Value}
theorem RS.base_le (h : RS w base F c g gd S R k d tv) : base ≤ w.heap.size := Nat.le_trans h.bg (Nat.le_of_lt h.rd.lt)
/-- Memory grows, nothing that lay is turned. -/
theorem RS.next (h : RS w base F c g gd S R k d tv) (hb : Below w.heap.size w w') : RS w' base F c g gd S R k d tv ∧ Kf base F F w w' := by
  refine ⟨⟨h.cur.next hb, Lies.next h.rd hb, h.hk, h.dat.next hb, ?_, h.bg, h.bd, h.Fg, h.Fd, h.Fo, h.Fc, fun j hj => ⟨(h.Fl j hj).1, Nat.lt_of_lt_of_le (h.Fl j hj).2 hb.size⟩⟩, Kf.of_below hb h.base_le⟩
  refine ⟨h.own.1, h.own.2.imp id fun ⟨b, cap, cur, h1, h2, h3, h4⟩ => ⟨b, cap, cur, h1, h2, ?_, h4⟩⟩
  rw [hb.block b (Array.getElem?_eq_some_iff.1 h3).1]
  exact h3
theorem RS.row_ne (h : RS w base F c g gd S R k d tv) {x : Nat} {t : TypeId} {cs : Array Value} (hL : Lies w x t cs) (ht : t ≠ 9) : some x ≠ tv.ownBlock := by
  intro e
  rcases h.own.2 with ⟨e1, _⟩ | ⟨b, cap, cur, e1, h2, h3, h4⟩
  · rw [e1] at e; simp [Value.ownBlock] at e
  · rw [e1] at e
    have : x = b := by simpa [Value.ownBlock] using e
    subst this
    exact Lies.ne hL h3 ht rfl
/-- The reader has been turned. -/
theorem RS.read (h : RS w base F c g gd S R k d tv) {k' : Nat} (hr : RD w' g R k') (hk : k' ≤ R.size) (hg : w.grownBy w' (some g)) : RS w' base F c g gd S R k' d tv ∧ Kf base F F w w' := by
  have hc : c ≠ g := Lies.ne h.cur h.rd (by decide)
  have hd : gd ≠ g := Lies.ne h.dat h.rd (by decide)
  have ho := h.row_ne h.rd (by decide)
  refine ⟨⟨h.cur.grown hg (fun e => hc (by injection e)), hr, hk, h.dat.grown hg (fun e => hd (by injection e)), World.ownsRow.kept h.own hg (.inr (Ne.symm ho)), h.bg, h.bd, h.Fg, h.Fd, h.Fo, h.Fc, fun j hj => ⟨(h.Fl j hj).1, Nat.lt_of_lt_of_le (h.Fl j hj).2 hg.size⟩⟩, ?_⟩
  exact ⟨(Below.refl base w).grown hg h.base_le (fun j hj => by injection hj with hj; exact hj ▸ h.bg), fun j hj hF => hg.block j hj (fun e => by injection e with e; exact hF (e ▸ h.Fg)), fun _ hj => .inl hj⟩
/-- The data have been turned, but for their texts. -/
theorem RS.store (h : RS w base F c g gd S R k d tv) {d' : MD} (hd : Lies w' gd 30 (cellsD d' tv)) (hL : d'.L = d.L) (hg : w.grownBy w' (some gd)) : RS w' base F c g gd S R k d' tv ∧ Kf base F F w w' := by
  have hc : c ≠ gd := Lies.ne h.cur h.dat (by decide)
  have hgd : g ≠ gd := Lies.ne h.rd h.dat (by decide)
  have ho := h.row_ne h.dat (by decide)
  refine ⟨⟨h.cur.grown hg (fun e => hc (by injection e)), Lies.grown h.rd hg (fun e => hgd (by injection e)), h.hk, hd, by rw [hL]; exact World.ownsRow.kept h.own hg (.inr (Ne.symm ho)), h.bg, h.bd, h.Fg, h.Fd, h.Fo, h.Fc, fun j hj => ⟨(h.Fl j hj).1, Nat.lt_of_lt_of_le (h.Fl j hj).2 hg.size⟩⟩, ?_⟩
  exact ⟨(Below.refl base w).grown hg h.base_le (fun j hj => by injection hj with hj; exact hj ▸ h.bd), fun j hj hF => hg.block j hj (fun e => by injection e with e; exact hF (e ▸ h.Fd)), fun _ hj => .inl hj⟩
end
/-- What a cursor's call does. -/
def CuR (w : World) (base : Nat) (F : Nat → Prop) (c g gd : Nat) (S R : ByteArray) (k' : Nat) (d : MD) (tv v : Value) (e : Ending) (w' : World) : Prop := e = .returned v ∧ RS w' base F c g gd S R k' d tv ∧ Kf base F F w w'
theorem RS.curCells {w : World} {base c g gd : Nat} {F : Nat → Prop} {S R : ByteArray} {k : Nat} {d : MD} {tv : Value} (h : RS w base F c g gd S R k d tv) : w.cell? ⟨c, 0, none⟩ = some (pp g) ∧ w.cell? ⟨c, 1, none⟩ = some (.string S) := ⟨h.cur.cell 0, h.cur.cell 1⟩

section
variable {base c g gd : Nat} {F : Nat → Prop} {S R : ByteArray} {k : Nat} {d : MD} {tv : Value} {w : World}
theorem takR_le' (l : List UInt8) (k : Nat) (n : Int) : (takR l k n).s.length ≤ l.length := by
  unfold takR
  split
  · simp
  · split
    · simp
    · simp; omega
theorem take_cu (h : RS w base F c g gd S R k d tv) (hR : R.size ≤ 1099511627776) (n : Int) :
    Calls Tryz.prog 159 #[pp g, .int .i64 n] w (CuR w base F c g gd S R (takR (bs R) k n).k d tv (.tuple #[.string (mkb (takR (bs R) k n).s), .int .i64 ((takR (bs R) k n).e : Nat)])) := by
  refine (rTake_any n h.rd (by unfold maxLen; omega) h.hk).mono ?_
  rintro e w' ⟨rfl, h1, h2⟩
  exact ⟨rfl, h.read h1 (by have := takR_le (bs R) k n (by rw [bs_length]; exact h.hk); rwa [bs_length] at this) h2⟩
theorem numb_cu (h : RS w base F c g gd S R k d tv) (hR : R.size ≤ 1099511627776) (n : Int) :
    Calls Tryz.prog 118 #[pp g, .int .i64 n] w (CuR w base F c g gd S R (numR (bs R) k n).k d tv (.tuple #[.int .u32 ((num (numR (bs R) k n).s : Nat) : Int), .int .i64 ((numR (bs R) k n).e : Nat)])) := by
  refine (rNumber_any n h.rd (by unfold maxLen; omega) h.hk).mono ?_
  rintro e w' ⟨rfl, h1, h2⟩
  exact ⟨rfl, h.read h1 (by have := numR_le (bs R) k n (by rw [bs_length]; exact h.hk); rwa [bs_length] at this) h2⟩
theorem seek_cu (h : RS w base F c g gd S R k d tv) (hR : R.size ≤ 1099511627776) (n : Int) :
    Calls Tryz.prog 152 #[pp g, .int .i64 n] w (CuR w base F c g gd S R (seekR (bs R) k n).2 d tv (.int .i64 ((seekR (bs R) k n).1 : Nat))) := by
  refine (rSeek_any n h.rd (by unfold maxLen; omega) h.hk).mono ?_
  rintro e w' ⟨rfl, h1, h2⟩
  exact ⟨rfl, h.read h1 (by have := seekR_le (bs R) k n (by rw [bs_length]; exact h.hk); rwa [bs_length] at this) h2⟩
theorem cOct_any (h : RS w base F c g gd S R k d tv) (hR : R.size ≤ 1099511627776) (n : Int) :
    Calls Tryz.prog 143 #[pp c, .int .i64 n] w (CuR w base F c g gd S R (takR (bs R) k n).k d tv (.tuple #[.string (mkb (takR (bs R) k n).s), .int .i64 ((takR (bs R) k n).e : Nat)])) := by
  obtain ⟨hc0, _⟩ := h.curCells
  have HT := Lib.hid (take_cu h hR n)
  have hsz : (mkb (takR (bs R) k n).s).size ≤ 1099511627776 := by
    unfold mkb
    rw [tosize]
    have := takR_le' (bs R) k n
    rw [bs_length] at this
    omega
  have HC := Lib.hid fun wx => Clone_any (mkb (takR (bs R) k n).s) wx hsz
  obtain ⟨q, hq⟩ : ∃ q, takR (bs R) k n = q := ⟨_, rfl⟩
  rw [hq] at HT HC ⊢
  clear h hq hsz
  go_enter Tryz.func143, Tryz.ntmps143
  go_wp2_with (first | (go_at_call 159; (with_reducible refine HT.out.mono ?_); rintro e w1 ⟨rfl, h1, h2⟩; have H1 := Lib.hid h1; have H2 := Lib.hid h2; clear h1 h2) | (go_at_call 104; (with_reducible refine (HC.out _).mono ?_); rintro e w2 ⟨rfl, hb⟩; have HB := Lib.hid hb; clear hb))
  go_ret2
  obtain ⟨x, y⟩ := H1.out.next HB.out
  exact ⟨rfl, x, H2.out.trans y⟩
theorem cText_any (h : RS w base F c g gd S R k d tv) (hR : R.size ≤ 1099511627776) :
    Calls Tryz.prog 213 #[pp c] w (CuR w base F c g gd S R (rdText (bs R) k).k d tv (.tuple #[.string (mkb (rdText (bs R) k).s), .int .i64 ((rdText (bs R) k).e : Nat)])) := by
  obtain ⟨hc0, _⟩ := h.curCells
  have HN := Lib.hid (numb_cu h hR 1)
  have HV1 : Hid ((numR (bs R) k 1).e ≠ 0 → rdText (bs R) k = ⟨[], (numR (bs R) k 1).e, (numR (bs R) k 1).k⟩) := Lib.hid fun h => if_pos h
  have HV2 : Hid ((numR (bs R) k 1).e = 0 → rdText (bs R) k = takR (bs R) (numR (bs R) k 1).k (num (numR (bs R) k 1).s : Nat)) := Lib.hid fun h => if_neg (fun hn => hn h)
  have HO := Lib.hid fun wx (hx : RS wx base F c g gd S R (numR (bs R) k 1).k d tv) => cOct_any hx hR (num (numR (bs R) k 1).s : Nat)
  have hlt := numR_lt (bs R) k 1
  obtain ⟨q, hq⟩ : ∃ q, numR (bs R) k 1 = q := ⟨_, rfl⟩
  rw [hq] at HN HV1 HV2 HO hlt
  obtain ⟨v, hv⟩ : ∃ v, num q.s = v := ⟨_, rfl⟩
  rw [hv] at HN HV2 HO hlt
  clear h hq hv
  by_cases h0 : q.e = 0
  · have hv := HV2.out h0
    rw [h0] at HN
    clear HV1 HV2 h0
    rw [hv]
    obtain ⟨t, ht⟩ : ∃ t, takR (bs R) q.k (v : Int) = t := ⟨_, rfl⟩
    rw [ht] at HO ⊢
    clear ht hv
    go_enter Tryz.func213, Tryz.ntmps213
    go_wp2_with (first | (go_at_call 118; (with_reducible refine HN.out.mono ?_); rintro e w1 ⟨rfl, h1, h2⟩; have H1 := Lib.hid h1; have H2 := Lib.hid h2; clear h1 h2) | (go_at_call 143; (with_reducible refine (HO.out _ H1.out).mono ?_); rintro e w2 ⟨rfl, h1, h2⟩; have H3 := Lib.hid h1; have H4 := Lib.hid h2; clear h1 h2))
    go_ret2
    exact ⟨rfl, H3.out, H2.out.trans H4.out⟩
  · have hv := HV1.out h0
    have hne : ((q.e : Int) != 0) = true := by rw [bne_iff_ne]; omega
    clear HV1 HV2 h0 HO
    rw [hv]
    clear hv
    go_enter Tryz.func213, Tryz.ntmps213
    go_wp2_with (go_at_call 118; (with_reducible refine HN.out.mono ?_); rintro e w1 ⟨rfl, h1, h2⟩; have H1 := Lib.hid h1; have H2 := Lib.hid h2; clear h1 h2)
    go_ret2
    exact ⟨rfl, H1.out, H2.out⟩
end
end Go.Proofs.YtodedbokeodmkaaGreat
namespace Go.Proofs.YtodedbokeodmkaaGreat
open Go.RowKit
set_option linter.unusedVariables false
set_option maxRecDepth 100000

theorem below_dr (w : World) : Below w.heap.size w w.drew := ⟨rfl, rfl, rfl, Nat.le_refl _, fun _ _ => rfl⟩
theorem cell_kf {w w' : World} {base b o : Nat} {F F' : Nat → Prop} {v : Value} (hk : Kf base F F' w w') (hlt : b < w.heap.size) (hF : ¬ F b) (hc : w.cell? ⟨b, o, none⟩ = some v) : w'.cell? ⟨b, o, none⟩ = some v :=
  (World.cell?_of_block (w := w) (w' := w') (a := ⟨b, o, none⟩) (hk.rest b hlt hF)).trans hc
set_option maxHeartbeats 1000000 in
theorem nam4_tn {base g M : Nat} {F : Nat → Prop} {s : PS} (bst bo : Nat) (d : MD) (tv : Value) (w : World) (h : PK w base F g M s) (hf : Fit w d tv) (hs : w.cell? ⟨bst, 0, none⟩ = some (.func (.func 71) #[] #[])) (ho : w.cell? ⟨bo, 0, none⟩ = some (.func (.func 130) #[] #[]))
    (ls : bst < w.heap.size) (lo : bo < w.heap.size) (Fs : ¬ F bst) (Fo : ¬ F bo) :
    Calls Tryz.prog 166 #[pp g, dataV d tv, .pointer (some ⟨bst, 0, none⟩), .pointer (some ⟨bo, 0, none⟩)] w (Pkr w base F g M (putK M [.nam false true] d s).2 (.int .i64 ((putK M [.nam false true] d s).1 : Nat))) := by
  rw [put_one, show putP M (.nam false true) d s = nameS M s (bs d.n) from rfl]
  obtain ⟨W, hW⟩ : ∃ W, W = w.alloc (.cells (cellsD d tv) 30) := ⟨_, rfl⟩
  have hb0 := boxD w d tv
  rw [← hW] at hb0
  have hL : Lies W w.heap.size 30 (cellsD d tv) := by rw [hW]; exact Lies.new w _ _
  have HP : Hid (∀ wx, Below W.heap.size W wx → PK wx base F g M s ∧ Kf base F F w wx) := Lib.hid fun wx hb => ⟨(h.next hb0).next hb, Kf.of_below (hb0.trans (hb.mono hb0.size)) h.base_le⟩
  have hd : ¬ F w.heap.size := fun hx => by have := (h.lt hx).2; omega
  have HS : Hid (∀ wx F', Kf base F F' W wx → wx.cell? ⟨bst, 0, none⟩ = some (.func (.func 71) #[] #[]) ∧ wx.cell? ⟨bo, 0, none⟩ = some (.func (.func 130) #[] #[]) ∧ wx.cell? ⟨w.heap.size, 3, none⟩ = some (.string d.n)) := Lib.hid fun wx F' hk =>
    ⟨cell_kf hk (Nat.lt_of_lt_of_le ls hb0.size) Fs ((hb0.cell (p := ⟨bst, 0, none⟩) ls).trans hs), cell_kf hk (Nat.lt_of_lt_of_le lo hb0.size) Fo ((hb0.cell (p := ⟨bo, 0, none⟩) lo).trans ho), cell_kf hk hL.lt hd (hL.cell 3)⟩
  have HS0 := Lib.hid (HS.out W F (Kf.refl _ _ _))
  have HC := Lib.hid fun wx (hx : PK wx base F g M s) => pName_any hx d.n hf.n
  have HKW := Lib.hid (Kf.of_below (base := base) (F := F) (below_dr W) (h.next hb0).base_le)
  obtain ⟨q, hq⟩ : ∃ q, nameS M s (bs d.n) = q := ⟨_, rfl⟩
  rw [hq] at HC ⊢
  clear hq h hf hs ho ls lo Fs Fo hb0 hL hd
  unfold dataV
  go_enter Tryz.func166, Tryz.ntmps166
  go_wp2
  rw [← hW]
  clear hW
  go_region_held3 (fun w' => w'.cell? ⟨bst, 0, none⟩ = some (.func (.func 71) #[] #[]) ∧ w'.cell? ⟨bo, 0, none⟩ = some (.func (.func 130) #[] #[]) ∧ w'.cell? ⟨w.heap.size, 3, none⟩ = some (.string d.n)) (first | with_reducible exact HS0.out | with_reducible exact HS.out _ _ HKW.out | exact HS.out _ _ (HKW.out.trans H2.out) | go_keep) (first | (go_at_call 130; (with_reducible refine (targetOf_any _ _).mono ?_); rintro e w1 ⟨rfl, rfl⟩) | (go_at_call 71; (with_reducible refine (HC.out _ (HP.out _ (below_dr W)).1).mono ?_); rintro e w2 ⟨rfl, F2, h1, h2⟩; have H1 := Lib.hid h1; have H2 := Lib.hid h2; clear h1 h2) | fail)
  all_goals
    go_wp2
    go_ret
    exact ⟨rfl, F2, H1.out, (HP.out _ (below_dr W)).2.trans H2.out⟩
set_option maxHeartbeats 1000000 in
theorem nam4_mn {base g M : Nat} {F : Nat → Prop} {s : PS} (bst bo : Nat) (d : MD) (tv : Value) (w : World) (h : PK w base F g M s) (hf : Fit w d tv) (hs : w.cell? ⟨bst, 0, none⟩ = some (.func (.func 71) #[] #[])) (ho : w.cell? ⟨bo, 0, none⟩ = some (.func (.func 134) #[] #[]))
    (ls : bst < w.heap.size) (lo : bo < w.heap.size) (Fs : ¬ F bst) (Fo : ¬ F bo) :
    Calls Tryz.prog 166 #[pp g, dataV d tv, .pointer (some ⟨bst, 0, none⟩), .pointer (some ⟨bo, 0, none⟩)] w (Pkr w base F g M (putK M [.nam true true] d s).2 (.int .i64 ((putK M [.nam true true] d s).1 : Nat))) := by
  rw [put_one, show putP M (.nam true true) d s = nameS M s (bs d.m) from rfl]
  obtain ⟨W, hW⟩ : ∃ W, W = w.alloc (.cells (cellsD d tv) 30) := ⟨_, rfl⟩
  have hb0 := boxD w d tv
  rw [← hW] at hb0
  have hL : Lies W w.heap.size 30 (cellsD d tv) := by rw [hW]; exact Lies.new w _ _
  have HP : Hid (∀ wx, Below W.heap.size W wx → PK wx base F g M s ∧ Kf base F F w wx) := Lib.hid fun wx hb => ⟨(h.next hb0).next hb, Kf.of_below (hb0.trans (hb.mono hb0.size)) h.base_le⟩
  have hd : ¬ F w.heap.size := fun hx => by have := (h.lt hx).2; omega
  have HS : Hid (∀ wx F', Kf base F F' W wx → wx.cell? ⟨bst, 0, none⟩ = some (.func (.func 71) #[] #[]) ∧ wx.cell? ⟨bo, 0, none⟩ = some (.func (.func 134) #[] #[]) ∧ wx.cell? ⟨w.heap.size, 4, none⟩ = some (.string d.m)) := Lib.hid fun wx F' hk =>
    ⟨cell_kf hk (Nat.lt_of_lt_of_le ls hb0.size) Fs ((hb0.cell (p := ⟨bst, 0, none⟩) ls).trans hs), cell_kf hk (Nat.lt_of_lt_of_le lo hb0.size) Fo ((hb0.cell (p := ⟨bo, 0, none⟩) lo).trans ho), cell_kf hk hL.lt hd (hL.cell 4)⟩
  have HS0 := Lib.hid (HS.out W F (Kf.refl _ _ _))
  have HC := Lib.hid fun wx (hx : PK wx base F g M s) => pName_any hx d.m hf.m
  have HKW := Lib.hid (Kf.of_below (base := base) (F := F) (below_dr W) (h.next hb0).base_le)
  obtain ⟨q, hq⟩ : ∃ q, nameS M s (bs d.m) = q := ⟨_, rfl⟩
  rw [hq] at HC ⊢
  clear hq h hf hs ho ls lo Fs Fo hb0 hL hd
  unfold dataV
  go_enter Tryz.func166, Tryz.ntmps166
  go_wp2
  rw [← hW]
  clear hW
  go_region_held3 (fun w' => w'.cell? ⟨bst, 0, none⟩ = some (.func (.func 71) #[] #[]) ∧ w'.cell? ⟨bo, 0, none⟩ = some (.func (.func 134) #[] #[]) ∧ w'.cell? ⟨w.heap.size, 4, none⟩ = some (.string d.m)) (first | with_reducible exact HS0.out | with_reducible exact HS.out _ _ HKW.out | exact HS.out _ _ (HKW.out.trans H2.out) | go_keep) (first | (go_at_call 134; (with_reducible refine (mailOf_any _ _).mono ?_); rintro e w1 ⟨rfl, rfl⟩) | (go_at_call 71; (with_reducible refine (HC.out _ (HP.out _ (below_dr W)).1).mono ?_); rintro e w2 ⟨rfl, F2, h1, h2⟩; have H1 := Lib.hid h1; have H2 := Lib.hid h2; clear h1 h2) | fail)
  all_goals
    go_wp2
    go_ret
    exact ⟨rfl, F2, H1.out, (HP.out _ (below_dr W)).2.trans H2.out⟩
set_option maxHeartbeats 1000000 in
theorem nam4_tp {base g M : Nat} {F : Nat → Prop} {s : PS} (bst bo : Nat) (d : MD) (tv : Value) (w : World) (h : PK w base F g M s) (hf : Fit w d tv) (hs : w.cell? ⟨bst, 0, none⟩ = some (.func (.func 200) #[] #[])) (ho : w.cell? ⟨bo, 0, none⟩ = some (.func (.func 130) #[] #[]))
    (ls : bst < w.heap.size) (lo : bo < w.heap.size) (Fs : ¬ F bst) (Fo : ¬ F bo) :
    Calls Tryz.prog 166 #[pp g, dataV d tv, .pointer (some ⟨bst, 0, none⟩), .pointer (some ⟨bo, 0, none⟩)] w (Pkr w base F g M (putK M [.nam false false] d s).2 (.int .i64 ((putK M [.nam false false] d s).1 : Nat))) := by
  rw [put_one, show putP M (.nam false false) d s = plainS M s (bs d.n) from rfl]
  obtain ⟨W, hW⟩ : ∃ W, W = w.alloc (.cells (cellsD d tv) 30) := ⟨_, rfl⟩
  have hb0 := boxD w d tv
  rw [← hW] at hb0
  have hL : Lies W w.heap.size 30 (cellsD d tv) := by rw [hW]; exact Lies.new w _ _
  have HP : Hid (∀ wx, Below W.heap.size W wx → PK wx base F g M s ∧ Kf base F F w wx) := Lib.hid fun wx hb => ⟨(h.next hb0).next hb, Kf.of_below (hb0.trans (hb.mono hb0.size)) h.base_le⟩
  have hd : ¬ F w.heap.size := fun hx => by have := (h.lt hx).2; omega
  have HS : Hid (∀ wx F', Kf base F F' W wx → wx.cell? ⟨bst, 0, none⟩ = some (.func (.func 200) #[] #[]) ∧ wx.cell? ⟨bo, 0, none⟩ = some (.func (.func 130) #[] #[]) ∧ wx.cell? ⟨w.heap.size, 3, none⟩ = some (.string d.n)) := Lib.hid fun wx F' hk =>
    ⟨cell_kf hk (Nat.lt_of_lt_of_le ls hb0.size) Fs ((hb0.cell (p := ⟨bst, 0, none⟩) ls).trans hs), cell_kf hk (Nat.lt_of_lt_of_le lo hb0.size) Fo ((hb0.cell (p := ⟨bo, 0, none⟩) lo).trans ho), cell_kf hk hL.lt hd (hL.cell 3)⟩
  have HS0 := Lib.hid (HS.out W F (Kf.refl _ _ _))
  have HC := Lib.hid fun wx (hx : PK wx base F g M s) => pPlain_any hx d.n hf.n
  have HKW := Lib.hid (Kf.of_below (base := base) (F := F) (below_dr W) (h.next hb0).base_le)
  obtain ⟨q, hq⟩ : ∃ q, plainS M s (bs d.n) = q := ⟨_, rfl⟩
  rw [hq] at HC ⊢
  clear hq h hf hs ho ls lo Fs Fo hb0 hL hd
  unfold dataV
  go_enter Tryz.func166, Tryz.ntmps166
  go_wp2
  rw [← hW]
  clear hW
  go_region_held3 (fun w' => w'.cell? ⟨bst, 0, none⟩ = some (.func (.func 200) #[] #[]) ∧ w'.cell? ⟨bo, 0, none⟩ = some (.func (.func 130) #[] #[]) ∧ w'.cell? ⟨w.heap.size, 3, none⟩ = some (.string d.n)) (first | with_reducible exact HS0.out | with_reducible exact HS.out _ _ HKW.out | exact HS.out _ _ (HKW.out.trans H2.out) | go_keep) (first | (go_at_call 130; (with_reducible refine (targetOf_any _ _).mono ?_); rintro e w1 ⟨rfl, rfl⟩) | (go_at_call 200; (with_reducible refine (HC.out _ (HP.out _ (below_dr W)).1).mono ?_); rintro e w2 ⟨rfl, F2, h1, h2⟩; have H1 := Lib.hid h1; have H2 := Lib.hid h2; clear h1 h2) | fail)
  all_goals
    go_wp2
    go_ret
    exact ⟨rfl, F2, H1.out, (HP.out _ (below_dr W)).2.trans H2.out⟩
set_option maxHeartbeats 2000000 in
theorem cName_n {w : World} {base c g gd : Nat} {F : Nat → Prop} {S R : ByteArray} {k : Nat} {d : MD} {tv : Value} (h : RS w base F c g gd S R k d tv) (hS : S.size ≤ 1099511627776) (hR : R.size ≤ 1099511627776) :
    Calls Tryz.prog 168 #[pp c, .agg #[.func (.func 71) #[] #[], .func (.func 154) #[] #[]]] w (CuR w base F c g gd S R (rdName (bs S) (bs R) true k).k d tv (.tuple #[.string (mkb (rdName (bs S) (bs R) true k).s), .int .i64 ((rdName (bs S) (bs R) true k).e : Nat)])) := by
  obtain ⟨W, hW⟩ : ∃ W, W = w.alloc (.cells #[.func (.func 71) #[] #[], .func (.func 154) #[] #[]] 206) := ⟨_, rfl⟩
  have hb0 : Below w.heap.size w W := by rw [hW]; exact (Below.refl _ _).alloc (Nat.le_refl _) _
  have hL : Lies W w.heap.size 206 #[.func (.func 71) #[] #[], .func (.func 154) #[] #[]] := by rw [hW]; exact Lies.new w _ _
  obtain ⟨hRW, hKW⟩ := h.next hb0
  have hc0 := (hRW.curCells).1
  have HX : Hid (∀ wx, Below W.heap.size W wx → RS wx base F c g gd S R k d tv ∧ Kf base F F w wx ∧ wx.cell? ⟨w.heap.size, 1, none⟩ = some (.func (.func 154) #[] #[]) ∧ wx.cell? ⟨c, 0, none⟩ = some (pp g) ∧ wx.cell? ⟨c, 1, none⟩ = some (.string S)) := Lib.hid fun wx hb =>
    ⟨(hRW.next hb).1, hKW.trans (hRW.next hb).2, (hL.next hb).cell 1, (hRW.next hb).1.curCells.1, (hRW.next hb).1.curCells.2⟩
  have HU := Lib.hid fun (wx : World) => Calls.mono (R' := fun e w' => e = .returned (.tuple #[.string ⟨(readU (bs S) k k).l.toArray⟩, .int .i64 ((readU (bs S) k k).e : Nat), .int .i64 ((readU (bs S) k k).f : Nat)]) ∧ Below wx.heap.size wx w') (uName_any S k wx (by unfold maxLen; omega)) (fun e w' h => h)
  have HV : Hid (rdName (bs S) (bs R) true k = if (readU (bs S) k k).f ≠ 0 then ⟨[], (readU (bs S) k k).f, k⟩ else if (seekR (bs R) k (readU (bs S) k k).e).1 ≠ 0 then ⟨[], 8, k⟩ else ⟨(readU (bs S) k k).l, 0, (readU (bs S) k k).e⟩) := Lib.hid rfl
  obtain ⟨u, hu⟩ : ∃ u, readU (bs S) k k = u := ⟨_, rfl⟩
  obtain ⟨q, hq⟩ : ∃ q, rdName (bs S) (bs R) true k = q := ⟨_, rfl⟩
  rw [hq]
  rw [hu, hq] at HV
  rw [hu] at HU
  clear hu hq h hb0 hL hRW hKW
  by_cases h0 : u.f = 0
  · have HSk := Lib.hid fun wx (hx : RS wx base F c g gd S R k d tv) => seek_cu hx hR u.e
    rw [h0] at HU
    have HV2 : Hid (q = if (seekR (bs R) k u.e).1 ≠ 0 then ⟨[], 8, k⟩ else ⟨u.l, 0, u.e⟩) := Lib.hid (HV.out.trans (if_neg (fun hn => hn h0)))
    have hkk : Hid ((seekR (bs R) k u.e).1 ≠ 0 → (seekR (bs R) k u.e).2 = k) := Lib.hid (by unfold seekR; split <;> simp)
    have hkk2 : Hid ((seekR (bs R) k u.e).1 = 0 → (seekR (bs R) k u.e).2 = u.e) := Lib.hid (by unfold seekR; split <;> simp)
    clear HV h0
    obtain ⟨z, hz⟩ : ∃ z, seekR (bs R) k (u.e : Int) = z := ⟨_, rfl⟩
    rw [hz] at HSk HV2 hkk hkk2
    clear hz
    go_enter Tryz.func168, Tryz.ntmps168
    go_wp2
    rw [← hW]
    clear hW hc0
    obtain ⟨Ix, f, i0, hf0, hCn', hstep'⟩ : ∃ (Ix : Type) (f : Ix → World) (i0 : Ix), W.drew = f i0 ∧ (∀ n, Below W.heap.size W (f n)) ∧ (∀ n w'', Below (f n).heap.size (f n) w'' → ∃ m, w'' = f m) := ⟨{w' // Below W.heap.size W w'}, Subtype.val, ⟨W.drew, ⟨rfl, rfl, rfl, Nat.le_refl _, fun _ _ => rfl⟩⟩, rfl, fun n => n.2, fun n w'' h => ⟨⟨w'', next n.2 h⟩, rfl⟩⟩
    have HCn := Lib.hid hCn'
    have Hstep := Lib.hid hstep'
    clear hCn' hstep'
    haveI : Nonempty Ix := ⟨i0⟩
    have k0 : ∀ m, (f m).cell? ⟨w.heap.size, 1, none⟩ = some (.func (.func 154) #[] #[]) := fun m => (HX.out _ (HCn.out m)).2.2.1
    have k1 : ∀ m, (f m).cell? ⟨c, 0, none⟩ = some (pp g) := fun m => (HX.out _ (HCn.out m)).2.2.2.1
    have k2 : ∀ m, (f m).cell? ⟨c, 1, none⟩ = some (.string S) := fun m => (HX.out _ (HCn.out m)).2.2.2.2
    have V0 := Lib.hid (fun n => (rAt_any (HX.out (f n) (HCn.out n)).1.rd).mono (fun e w'' h => (⟨h.1, n, h.2.symm⟩ : _ ∧ ∃ m, _ = f m)))
    have V1 := Lib.hid (fun n => (HU.out (f n)).mono (fun _ _ h => (⟨h.1, Hstep.out n _ h.2⟩ : _ ∧ ∃ m, _ = f m)))
    refine wp_region_class f (by kernel_rfl) (lexB_of (by kernel_rfl) (by as_aux_lemma => kernel_rfl)) i0 hf0 ?_
    clear hf0
    repeat (go_big_quiet_step (first | (with_reducible exact V0.out _) | (with_reducible exact V1.out _)))
    all_goals
      refine wpQuiet_nil ?_
      intro _ hw'
      obtain ⟨nE, hw''⟩ := hw'
      subst hw''
      have HE := Lib.hid (HX.out _ (HCn.out nE))
      have hcE := HE.out.2.2.2.1
      clear k0 k1 k2
      by_cases hz : z.1 = 0
      · have HV3 : Hid (q = ⟨u.l, 0, u.e⟩) := Lib.hid (HV2.out.trans (if_neg (fun hn => hn hz)))
        have HZ : Hid (z.2 = u.e) := Lib.hid (hkk2.out hz)
        rw [hz] at HSk
        clear hz HV2 hkk hkk2
        go_wp2_with (go_at_call 152; (with_reducible refine (HSk.out _ HE.out.1).mono ?_); rintro e w1 ⟨rfl, h1, h2⟩; have H1 := Lib.hid h1; have H2 := Lib.hid h2; clear h1 h2)
        go_ret2
        rw [HV3.out]
        have h1 := H1.out
        rw [HZ.out] at h1
        exact ⟨rfl, h1, HE.out.2.1.trans H2.out⟩
      · have HV3 : Hid (q = ⟨[], 8, k⟩) := Lib.hid (HV2.out.trans (if_pos hz))
        have HZ : Hid (z.2 = k) := Lib.hid (hkk.out hz)
        have hne : ((z.1 : Int) != 0) = true := by rw [bne_iff_ne]; omega
        clear hz HV2 hkk hkk2
        go_wp2_with (go_at_call 152; (with_reducible refine (HSk.out _ HE.out.1).mono ?_); rintro e w1 ⟨rfl, h1, h2⟩; have H1 := Lib.hid h1; have H2 := Lib.hid h2; clear h1 h2)
        go_ret2
        rw [HV3.out]
        have h1 := H1.out
        rw [HZ.out] at h1
        exact ⟨rfl, h1, HE.out.2.1.trans H2.out⟩
  · have HV2 : Hid (q = ⟨[], u.f, k⟩) := Lib.hid (HV.out.trans (if_pos h0))
    have hne : ((u.f : Int) != 0) = true := by rw [bne_iff_ne]; omega
    clear HV h0
    go_enter Tryz.func168, Tryz.ntmps168
    go_wp2
    rw [← hW]
    clear hW hc0
    obtain ⟨Ix, f, i0, hf0, hCn', hstep'⟩ : ∃ (Ix : Type) (f : Ix → World) (i0 : Ix), W.drew = f i0 ∧ (∀ n, Below W.heap.size W (f n)) ∧ (∀ n w'', Below (f n).heap.size (f n) w'' → ∃ m, w'' = f m) := ⟨{w' // Below W.heap.size W w'}, Subtype.val, ⟨W.drew, ⟨rfl, rfl, rfl, Nat.le_refl _, fun _ _ => rfl⟩⟩, rfl, fun n => n.2, fun n w'' h => ⟨⟨w'', next n.2 h⟩, rfl⟩⟩
    have HCn := Lib.hid hCn'
    have Hstep := Lib.hid hstep'
    clear hCn' hstep'
    haveI : Nonempty Ix := ⟨i0⟩
    have k0 : ∀ m, (f m).cell? ⟨w.heap.size, 1, none⟩ = some (.func (.func 154) #[] #[]) := fun m => (HX.out _ (HCn.out m)).2.2.1
    have k1 : ∀ m, (f m).cell? ⟨c, 0, none⟩ = some (pp g) := fun m => (HX.out _ (HCn.out m)).2.2.2.1
    have k2 : ∀ m, (f m).cell? ⟨c, 1, none⟩ = some (.string S) := fun m => (HX.out _ (HCn.out m)).2.2.2.2
    have V0 := Lib.hid (fun n => (rAt_any (HX.out (f n) (HCn.out n)).1.rd).mono (fun e w'' h => (⟨h.1, n, h.2.symm⟩ : _ ∧ ∃ m, _ = f m)))
    have V1 := Lib.hid (fun n => (HU.out (f n)).mono (fun _ _ h => (⟨h.1, Hstep.out n _ h.2⟩ : _ ∧ ∃ m, _ = f m)))
    refine wp_region_class f (by kernel_rfl) (lexB_of (by kernel_rfl) (by as_aux_lemma => kernel_rfl)) i0 hf0 ?_
    clear hf0
    repeat (go_big_quiet_step (first | (with_reducible exact V0.out _) | (with_reducible exact V1.out _)))
    all_goals
      refine wpQuiet_nil ?_
      intro _ hw'
      obtain ⟨nE, hw''⟩ := hw'
      subst hw''
      have HE := Lib.hid (HX.out _ (HCn.out nE))
      clear k0 k1 k2
      go_wp2
      go_ret2
      rw [HV2.out]
      exact ⟨rfl, HE.out.1, HE.out.2.1⟩
set_option maxHeartbeats 2000000 in
theorem cName_p {w : World} {base c g gd : Nat} {F : Nat → Prop} {S R : ByteArray} {k : Nat} {d : MD} {tv : Value} (h : RS w base F c g gd S R k d tv) (hS : S.size ≤ 1099511627776) (hR : R.size ≤ 1099511627776) :
    Calls Tryz.prog 168 #[pp c, .agg #[.func (.func 200) #[] #[], .func (.func 201) #[] #[]]] w (CuR w base F c g gd S R (rdName (bs S) (bs R) false k).k d tv (.tuple #[.string (mkb (rdName (bs S) (bs R) false k).s), .int .i64 ((rdName (bs S) (bs R) false k).e : Nat)])) := by
  obtain ⟨W, hW⟩ : ∃ W, W = w.alloc (.cells #[.func (.func 200) #[] #[], .func (.func 201) #[] #[]] 206) := ⟨_, rfl⟩
  have hb0 : Below w.heap.size w W := by rw [hW]; exact (Below.refl _ _).alloc (Nat.le_refl _) _
  have hL : Lies W w.heap.size 206 #[.func (.func 200) #[] #[], .func (.func 201) #[] #[]] := by rw [hW]; exact Lies.new w _ _
  obtain ⟨hRW, hKW⟩ := h.next hb0
  have hc0 := (hRW.curCells).1
  have HX : Hid (∀ wx, Below W.heap.size W wx → RS wx base F c g gd S R k d tv ∧ Kf base F F w wx ∧ wx.cell? ⟨w.heap.size, 1, none⟩ = some (.func (.func 201) #[] #[]) ∧ wx.cell? ⟨c, 0, none⟩ = some (pp g) ∧ wx.cell? ⟨c, 1, none⟩ = some (.string S)) := Lib.hid fun wx hb =>
    ⟨(hRW.next hb).1, hKW.trans (hRW.next hb).2, (hL.next hb).cell 1, (hRW.next hb).1.curCells.1, (hRW.next hb).1.curCells.2⟩
  have HU := Lib.hid fun (wx : World) => Calls.mono (R' := fun e w' => e = .returned (.tuple #[.string ⟨(readU (bs S) k 0).l.toArray⟩, .int .i64 ((readU (bs S) k 0).e : Nat), .int .i64 ((readU (bs S) k 0).f : Nat)]) ∧ Below wx.heap.size wx w') (uPlain_any S k wx (by unfold maxLen; omega)) (fun e w' h => h)
  have HV : Hid (rdName (bs S) (bs R) false k = if (readU (bs S) k 0).f ≠ 0 then ⟨[], (readU (bs S) k 0).f, k⟩ else if (seekR (bs R) k (readU (bs S) k 0).e).1 ≠ 0 then ⟨[], 8, k⟩ else ⟨(readU (bs S) k 0).l, 0, (readU (bs S) k 0).e⟩) := Lib.hid rfl
  obtain ⟨u, hu⟩ : ∃ u, readU (bs S) k 0 = u := ⟨_, rfl⟩
  obtain ⟨q, hq⟩ : ∃ q, rdName (bs S) (bs R) false k = q := ⟨_, rfl⟩
  rw [hq]
  rw [hu, hq] at HV
  rw [hu] at HU
  clear hu hq h hb0 hL hRW hKW
  by_cases h0 : u.f = 0
  · have HSk := Lib.hid fun wx (hx : RS wx base F c g gd S R k d tv) => seek_cu hx hR u.e
    rw [h0] at HU
    have HV2 : Hid (q = if (seekR (bs R) k u.e).1 ≠ 0 then ⟨[], 8, k⟩ else ⟨u.l, 0, u.e⟩) := Lib.hid (HV.out.trans (if_neg (fun hn => hn h0)))
    have hkk : Hid ((seekR (bs R) k u.e).1 ≠ 0 → (seekR (bs R) k u.e).2 = k) := Lib.hid (by unfold seekR; split <;> simp)
    have hkk2 : Hid ((seekR (bs R) k u.e).1 = 0 → (seekR (bs R) k u.e).2 = u.e) := Lib.hid (by unfold seekR; split <;> simp)
    clear HV h0
    obtain ⟨z, hz⟩ : ∃ z, seekR (bs R) k (u.e : Int) = z := ⟨_, rfl⟩
    rw [hz] at HSk HV2 hkk hkk2
    clear hz
    go_enter Tryz.func168, Tryz.ntmps168
    go_wp2
    rw [← hW]
    clear hW hc0
    obtain ⟨Ix, f, i0, hf0, hCn', hstep'⟩ : ∃ (Ix : Type) (f : Ix → World) (i0 : Ix), W.drew = f i0 ∧ (∀ n, Below W.heap.size W (f n)) ∧ (∀ n w'', Below (f n).heap.size (f n) w'' → ∃ m, w'' = f m) := ⟨{w' // Below W.heap.size W w'}, Subtype.val, ⟨W.drew, ⟨rfl, rfl, rfl, Nat.le_refl _, fun _ _ => rfl⟩⟩, rfl, fun n => n.2, fun n w'' h => ⟨⟨w'', next n.2 h⟩, rfl⟩⟩
    have HCn := Lib.hid hCn'
    have Hstep := Lib.hid hstep'
    clear hCn' hstep'
    haveI : Nonempty Ix := ⟨i0⟩
    have k0 : ∀ m, (f m).cell? ⟨w.heap.size, 1, none⟩ = some (.func (.func 201) #[] #[]) := fun m => (HX.out _ (HCn.out m)).2.2.1
    have k1 : ∀ m, (f m).cell? ⟨c, 0, none⟩ = some (pp g) := fun m => (HX.out _ (HCn.out m)).2.2.2.1
    have k2 : ∀ m, (f m).cell? ⟨c, 1, none⟩ = some (.string S) := fun m => (HX.out _ (HCn.out m)).2.2.2.2
    have V0 := Lib.hid (fun n => (rAt_any (HX.out (f n) (HCn.out n)).1.rd).mono (fun e w'' h => (⟨h.1, n, h.2.symm⟩ : _ ∧ ∃ m, _ = f m)))
    have V1 := Lib.hid (fun n => (HU.out (f n)).mono (fun _ _ h => (⟨h.1, Hstep.out n _ h.2⟩ : _ ∧ ∃ m, _ = f m)))
    refine wp_region_class f (by kernel_rfl) (lexB_of (by kernel_rfl) (by as_aux_lemma => kernel_rfl)) i0 hf0 ?_
    clear hf0
    repeat (go_big_quiet_step (first | (with_reducible exact V0.out _) | (with_reducible exact V1.out _)))
    all_goals
      refine wpQuiet_nil ?_
      intro _ hw'
      obtain ⟨nE, hw''⟩ := hw'
      subst hw''
      have HE := Lib.hid (HX.out _ (HCn.out nE))
      have hcE := HE.out.2.2.2.1
      clear k0 k1 k2
      by_cases hz : z.1 = 0
      · have HV3 : Hid (q = ⟨u.l, 0, u.e⟩) := Lib.hid (HV2.out.trans (if_neg (fun hn => hn hz)))
        have HZ : Hid (z.2 = u.e) := Lib.hid (hkk2.out hz)
        rw [hz] at HSk
        clear hz HV2 hkk hkk2
        go_wp2_with (go_at_call 152; (with_reducible refine (HSk.out _ HE.out.1).mono ?_); rintro e w1 ⟨rfl, h1, h2⟩; have H1 := Lib.hid h1; have H2 := Lib.hid h2; clear h1 h2)
        go_ret2
        rw [HV3.out]
        have h1 := H1.out
        rw [HZ.out] at h1
        exact ⟨rfl, h1, HE.out.2.1.trans H2.out⟩
      · have HV3 : Hid (q = ⟨[], 8, k⟩) := Lib.hid (HV2.out.trans (if_pos hz))
        have HZ : Hid (z.2 = k) := Lib.hid (hkk.out hz)
        have hne : ((z.1 : Int) != 0) = true := by rw [bne_iff_ne]; omega
        clear hz HV2 hkk hkk2
        go_wp2_with (go_at_call 152; (with_reducible refine (HSk.out _ HE.out.1).mono ?_); rintro e w1 ⟨rfl, h1, h2⟩; have H1 := Lib.hid h1; have H2 := Lib.hid h2; clear h1 h2)
        go_ret2
        rw [HV3.out]
        have h1 := H1.out
        rw [HZ.out] at h1
        exact ⟨rfl, h1, HE.out.2.1.trans H2.out⟩
  · have HV2 : Hid (q = ⟨[], u.f, k⟩) := Lib.hid (HV.out.trans (if_pos h0))
    have hne : ((u.f : Int) != 0) = true := by rw [bne_iff_ne]; omega
    clear HV h0
    go_enter Tryz.func168, Tryz.ntmps168
    go_wp2
    rw [← hW]
    clear hW hc0
    obtain ⟨Ix, f, i0, hf0, hCn', hstep'⟩ : ∃ (Ix : Type) (f : Ix → World) (i0 : Ix), W.drew = f i0 ∧ (∀ n, Below W.heap.size W (f n)) ∧ (∀ n w'', Below (f n).heap.size (f n) w'' → ∃ m, w'' = f m) := ⟨{w' // Below W.heap.size W w'}, Subtype.val, ⟨W.drew, ⟨rfl, rfl, rfl, Nat.le_refl _, fun _ _ => rfl⟩⟩, rfl, fun n => n.2, fun n w'' h => ⟨⟨w'', next n.2 h⟩, rfl⟩⟩
    have HCn := Lib.hid hCn'
    have Hstep := Lib.hid hstep'
    clear hCn' hstep'
    haveI : Nonempty Ix := ⟨i0⟩
    have k0 : ∀ m, (f m).cell? ⟨w.heap.size, 1, none⟩ = some (.func (.func 201) #[] #[]) := fun m => (HX.out _ (HCn.out m)).2.2.1
    have k1 : ∀ m, (f m).cell? ⟨c, 0, none⟩ = some (pp g) := fun m => (HX.out _ (HCn.out m)).2.2.2.1
    have k2 : ∀ m, (f m).cell? ⟨c, 1, none⟩ = some (.string S) := fun m => (HX.out _ (HCn.out m)).2.2.2.2
    have V0 := Lib.hid (fun n => (rAt_any (HX.out (f n) (HCn.out n)).1.rd).mono (fun e w'' h => (⟨h.1, n, h.2.symm⟩ : _ ∧ ∃ m, _ = f m)))
    have V1 := Lib.hid (fun n => (HU.out (f n)).mono (fun _ _ h => (⟨h.1, Hstep.out n _ h.2⟩ : _ ∧ ∃ m, _ = f m)))
    refine wp_region_class f (by kernel_rfl) (lexB_of (by kernel_rfl) (by as_aux_lemma => kernel_rfl)) i0 hf0 ?_
    clear hf0
    repeat (go_big_quiet_step (first | (with_reducible exact V0.out _) | (with_reducible exact V1.out _)))
    all_goals
      refine wpQuiet_nil ?_
      intro _ hw'
      obtain ⟨nE, hw''⟩ := hw'
      subst hw''
      have HE := Lib.hid (HX.out _ (HCn.out nE))
      clear k0 k1 k2
      go_wp2
      go_ret2
      rw [HV2.out]
      exact ⟨rfl, HE.out.1, HE.out.2.1⟩
theorem kf_set {w : World} {base c g gd : Nat} {F : Nat → Prop} {S R : ByteArray} {k : Nat} {d : MD} {tv : Value} (h : RS w base F c g gd S R k d tv) (j : Nat) (v : Value) : Kf base F F w (w.setCell ⟨gd, j, none⟩ v) := by
  have hg := grown_one w gd j v
  exact ⟨(Below.refl base w).grown hg h.base_le (fun j hj => by injection hj with hj; exact hj ▸ h.bd), fun j hj hF => hg.block j hj (fun e => by injection e with e; exact hF (e ▸ h.Fd)), fun _ hj => .inl hj⟩
theorem RS.setN {w : World} {base c g gd : Nat} {F : Nat → Prop} {S R : ByteArray} {k : Nat} {d : MD} {tv : Value} (h : RS w base F c g gd S R k d tv) (x : ByteArray) : RS (w.setCell ⟨gd, 3, none⟩ (.string x)) base F c g gd S R k { d with n := x } tv :=
  (h.store (d' := { d with n := x }) (h.dat.set 3 _) rfl (grown_one w gd 3 _)).1
theorem RS.setM {w : World} {base c g gd : Nat} {F : Nat → Prop} {S R : ByteArray} {k : Nat} {d : MD} {tv : Value} (h : RS w base F c g gd S R k d tv) (x : ByteArray) : RS (w.setCell ⟨gd, 4, none⟩ (.string x)) base F c g gd S R k { d with m := x } tv :=
  (h.store (d' := { d with m := x }) (h.dat.set 4 _) rfl (grown_one w gd 4 _)).1
theorem RS.drew {w : World} {base c g gd : Nat} {F : Nat → Prop} {S R : ByteArray} {k : Nat} {d : MD} {tv : Value} (h : RS w base F c g gd S R k d tv) : RS w.drew base F c g gd S R k d tv := (h.next (below_dr w)).1
set_option maxHeartbeats 2000000 in
theorem nam5_tn {w : World} {base c g gd : Nat} {F : Nat → Prop} {S R : ByteArray} {k : Nat} {d : MD} {tv : Value} (bst bo : Nat) (h : RS w base F c g gd S R k d tv) (hS : S.size ≤ 1099511627776) (hR : R.size ≤ 1099511627776)
    (hs : Lies w bst 206 #[.func (.func 71) #[] #[], .func (.func 154) #[] #[]]) (ho : w.cell? ⟨bo, 0, none⟩ = some (.func (.func 130) #[] #[])) (lo : bo < w.heap.size) (Fs : ¬ F bst) (Fo : ¬ F bo) :
    Calls Tryz.prog 167 #[pp c, pp gd, .pointer (some ⟨bst, 0, none⟩), .pointer (some ⟨bo, 0, none⟩)] w (ReadB w base F c g gd S R (rdP (bs S) (bs R) (.nam false true) d k)) := by
  have HS : Hid (∀ wx F', Kf base F F' w wx → (wx.cell? ⟨bst, 0, none⟩ = some (.func (.func 71) #[] #[]) ∧ wx.cell? ⟨bst, 1, none⟩ = some (.func (.func 154) #[] #[])) ∧ wx.cell? ⟨bo, 0, none⟩ = some (.func (.func 130) #[] #[])) := Lib.hid fun wx F' hk =>
    ⟨⟨cell_kf hk hs.lt Fs (hs.cell 0), cell_kf hk hs.lt Fs (hs.cell 1)⟩, cell_kf hk lo Fo ho⟩
  have hKd : Kf base F F w w.drew := Kf.of_below (below_dr w) h.base_le
  have HKd := Lib.hid hKd
  have HS0 := Lib.hid (HS.out _ _ hKd)
  have HC := Lib.hid (cName_n h.drew hS hR)
  have hgd := h.dat.lt
  obtain ⟨x, hx⟩ : ∃ x, rdName (bs S) (bs R) true k = x := ⟨_, rfl⟩
  rw [show rdP (bs S) (bs R) (.nam false true) d k = ⟨(rdName (bs S) (bs R) true k).e, (rdName (bs S) (bs R) true k).k, putName false d (mkb (rdName (bs S) (bs R) true k).s)⟩ from rfl, hx]
  rw [hx] at HC
  have HD : Hid (∀ w2, RS w2 base F c g gd S R x.k d tv → w2.frozen? ⟨gd, 3, none⟩ = false ∧ w2.cell? ⟨gd, 3, none⟩ = (cellsD d tv)[3]?) := Lib.hid fun w2 h2 => ⟨h2.dat.free 3, h2.dat.cell 3⟩
  clear hx h hs ho lo Fs Fo hKd
  go_enter Tryz.func167, Tryz.ntmps167
  go_wp2
  go_region_held3 (fun w' => (w'.cell? ⟨bst, 0, none⟩ = some (.func (.func 71) #[] #[]) ∧ w'.cell? ⟨bst, 1, none⟩ = some (.func (.func 154) #[] #[])) ∧ w'.cell? ⟨bo, 0, none⟩ = some (.func (.func 130) #[] #[])) (first | with_reducible exact HS0.out | exact HS.out _ _ (HKd.out.trans (H2.out.trans (kf_set H1.out _ _))) | exact HS.out _ _ (HKd.out.trans H2.out) | go_keep) (first | (go_at_call 130; (with_reducible refine (targetOf_any _ _).mono ?_); rintro e w1 ⟨rfl, rfl⟩) | (go_at_call 168; (with_reducible refine HC.out.mono ?_); rintro e w2 ⟨rfl, h1, h2⟩; have H1 := Lib.hid h1; have H2 := Lib.hid h2; obtain ⟨hf2, hc2⟩ := HD.out _ h1; clear h1 h2) | fail)
  all_goals
    go_wp2
    go_ret
    exact ⟨rfl, F, x.k, _, tv, H1.out.setN _, HKd.out.trans (H2.out.trans (kf_set H1.out _ _)), fun _ => ⟨rfl, rfl⟩⟩
set_option maxHeartbeats 2000000 in
theorem nam5_mn {w : World} {base c g gd : Nat} {F : Nat → Prop} {S R : ByteArray} {k : Nat} {d : MD} {tv : Value} (bst bo : Nat) (h : RS w base F c g gd S R k d tv) (hS : S.size ≤ 1099511627776) (hR : R.size ≤ 1099511627776)
    (hs : Lies w bst 206 #[.func (.func 71) #[] #[], .func (.func 154) #[] #[]]) (ho : w.cell? ⟨bo, 0, none⟩ = some (.func (.func 134) #[] #[])) (lo : bo < w.heap.size) (Fs : ¬ F bst) (Fo : ¬ F bo) :
    Calls Tryz.prog 167 #[pp c, pp gd, .pointer (some ⟨bst, 0, none⟩), .pointer (some ⟨bo, 0, none⟩)] w (ReadB w base F c g gd S R (rdP (bs S) (bs R) (.nam true true) d k)) := by
  have HS : Hid (∀ wx F', Kf base F F' w wx → (wx.cell? ⟨bst, 0, none⟩ = some (.func (.func 71) #[] #[]) ∧ wx.cell? ⟨bst, 1, none⟩ = some (.func (.func 154) #[] #[])) ∧ wx.cell? ⟨bo, 0, none⟩ = some (.func (.func 134) #[] #[])) := Lib.hid fun wx F' hk =>
    ⟨⟨cell_kf hk hs.lt Fs (hs.cell 0), cell_kf hk hs.lt Fs (hs.cell 1)⟩, cell_kf hk lo Fo ho⟩
  have hKd : Kf base F F w w.drew := Kf.of_below (below_dr w) h.base_le
  have HKd := Lib.hid hKd
  have HS0 := Lib.hid (HS.out _ _ hKd)
  have HC := Lib.hid (cName_n h.drew hS hR)
  have hgd := h.dat.lt
  obtain ⟨x, hx⟩ : ∃ x, rdName (bs S) (bs R) true k = x := ⟨_, rfl⟩
  rw [show rdP (bs S) (bs R) (.nam true true) d k = ⟨(rdName (bs S) (bs R) true k).e, (rdName (bs S) (bs R) true k).k, putName true d (mkb (rdName (bs S) (bs R) true k).s)⟩ from rfl, hx]
  rw [hx] at HC
  have HD : Hid (∀ w2, RS w2 base F c g gd S R x.k d tv → w2.frozen? ⟨gd, 4, none⟩ = false ∧ w2.cell? ⟨gd, 4, none⟩ = (cellsD d tv)[4]?) := Lib.hid fun w2 h2 => ⟨h2.dat.free 4, h2.dat.cell 4⟩
  clear hx h hs ho lo Fs Fo hKd
  go_enter Tryz.func167, Tryz.ntmps167
  go_wp2
  go_region_held3 (fun w' => (w'.cell? ⟨bst, 0, none⟩ = some (.func (.func 71) #[] #[]) ∧ w'.cell? ⟨bst, 1, none⟩ = some (.func (.func 154) #[] #[])) ∧ w'.cell? ⟨bo, 0, none⟩ = some (.func (.func 134) #[] #[])) (first | with_reducible exact HS0.out | exact HS.out _ _ (HKd.out.trans (H2.out.trans (kf_set H1.out _ _))) | exact HS.out _ _ (HKd.out.trans H2.out) | go_keep) (first | (go_at_call 134; (with_reducible refine (mailOf_any _ _).mono ?_); rintro e w1 ⟨rfl, rfl⟩) | (go_at_call 168; (with_reducible refine HC.out.mono ?_); rintro e w2 ⟨rfl, h1, h2⟩; have H1 := Lib.hid h1; have H2 := Lib.hid h2; obtain ⟨hf2, hc2⟩ := HD.out _ h1; clear h1 h2) | fail)
  all_goals
    go_wp2
    go_ret
    exact ⟨rfl, F, x.k, _, tv, H1.out.setM _, HKd.out.trans (H2.out.trans (kf_set H1.out _ _)), fun _ => ⟨rfl, rfl⟩⟩
set_option maxHeartbeats 2000000 in
theorem nam5_tp {w : World} {base c g gd : Nat} {F : Nat → Prop} {S R : ByteArray} {k : Nat} {d : MD} {tv : Value} (bst bo : Nat) (h : RS w base F c g gd S R k d tv) (hS : S.size ≤ 1099511627776) (hR : R.size ≤ 1099511627776)
    (hs : Lies w bst 206 #[.func (.func 200) #[] #[], .func (.func 201) #[] #[]]) (ho : w.cell? ⟨bo, 0, none⟩ = some (.func (.func 130) #[] #[])) (lo : bo < w.heap.size) (Fs : ¬ F bst) (Fo : ¬ F bo) :
    Calls Tryz.prog 167 #[pp c, pp gd, .pointer (some ⟨bst, 0, none⟩), .pointer (some ⟨bo, 0, none⟩)] w (ReadB w base F c g gd S R (rdP (bs S) (bs R) (.nam false false) d k)) := by
  have HS : Hid (∀ wx F', Kf base F F' w wx → (wx.cell? ⟨bst, 0, none⟩ = some (.func (.func 200) #[] #[]) ∧ wx.cell? ⟨bst, 1, none⟩ = some (.func (.func 201) #[] #[])) ∧ wx.cell? ⟨bo, 0, none⟩ = some (.func (.func 130) #[] #[])) := Lib.hid fun wx F' hk =>
    ⟨⟨cell_kf hk hs.lt Fs (hs.cell 0), cell_kf hk hs.lt Fs (hs.cell 1)⟩, cell_kf hk lo Fo ho⟩
  have hKd : Kf base F F w w.drew := Kf.of_below (below_dr w) h.base_le
  have HKd := Lib.hid hKd
  have HS0 := Lib.hid (HS.out _ _ hKd)
  have HC := Lib.hid (cName_p h.drew hS hR)
  have hgd := h.dat.lt
  obtain ⟨x, hx⟩ : ∃ x, rdName (bs S) (bs R) false k = x := ⟨_, rfl⟩
  rw [show rdP (bs S) (bs R) (.nam false false) d k = ⟨(rdName (bs S) (bs R) false k).e, (rdName (bs S) (bs R) false k).k, putName false d (mkb (rdName (bs S) (bs R) false k).s)⟩ from rfl, hx]
  rw [hx] at HC
  have HD : Hid (∀ w2, RS w2 base F c g gd S R x.k d tv → w2.frozen? ⟨gd, 3, none⟩ = false ∧ w2.cell? ⟨gd, 3, none⟩ = (cellsD d tv)[3]?) := Lib.hid fun w2 h2 => ⟨h2.dat.free 3, h2.dat.cell 3⟩
  clear hx h hs ho lo Fs Fo hKd
  go_enter Tryz.func167, Tryz.ntmps167
  go_wp2
  go_region_held3 (fun w' => (w'.cell? ⟨bst, 0, none⟩ = some (.func (.func 200) #[] #[]) ∧ w'.cell? ⟨bst, 1, none⟩ = some (.func (.func 201) #[] #[])) ∧ w'.cell? ⟨bo, 0, none⟩ = some (.func (.func 130) #[] #[])) (first | with_reducible exact HS0.out | exact HS.out _ _ (HKd.out.trans (H2.out.trans (kf_set H1.out _ _))) | exact HS.out _ _ (HKd.out.trans H2.out) | go_keep) (first | (go_at_call 130; (with_reducible refine (targetOf_any _ _).mono ?_); rintro e w1 ⟨rfl, rfl⟩) | (go_at_call 168; (with_reducible refine HC.out.mono ?_); rintro e w2 ⟨rfl, h1, h2⟩; have H1 := Lib.hid h1; have H2 := Lib.hid h2; obtain ⟨hf2, hc2⟩ := HD.out _ h1; clear h1 h2) | fail)
  all_goals
    go_wp2
    go_ret
    exact ⟨rfl, F, x.k, _, tv, H1.out.setN _, HKd.out.trans (H2.out.trans (kf_set H1.out _ _)), fun _ => ⟨rfl, rfl⟩⟩
end Go.Proofs.YtodedbokeodmkaaGreat
namespace Go.Proofs.YtodedbokeodmkaaGreat
open Go.RowKit
set_option linter.unusedVariables false
set_option maxRecDepth 100000

abbrev nsC (a b c d e : Nat) : Array Value := #[.int .u32 (a : Int), .int .u32 (b : Int), .int .u32 (c : Int), .int .u32 (d : Int), .int .u32 (e : Int)]
abbrev nsZ : Array Value := #[.int .u32 0, .int .u32 0, .int .u32 0, .int .u32 0, .int .u32 0]
/-- The reading's state: the row has x0 to x4. -/
structure RwS (w : World) (base : Nat) (F : Nat → Prop) (c g gd : Nat) (S R : ByteArray) (d : MD) (tv : Value) (bx b4 : Nat) (cs : Array Value) (k' : Nat) (wr : World) : Prop where
  rs : RS wr base F c g gd S R k' d tv
  kf : Kf base F F w wr
  row : Lies wr bx 27 cs
  out : Lies wr b4 27 nsZ
section
variable {w wr : World} {base c g gd : Nat} {F : Nat → Prop} {S R : ByteArray} {k' : Nat} {d : MD} {tv : Value} {bx b4 : Nat} {cs : Array Value}
theorem RwS.next {w1 : World} {k1 : Nat} (h : RwS w base F c g gd S R d tv bx b4 cs k' wr) (hx : ¬ F bx) (h4 : ¬ F b4) (h1 : RS w1 base F c g gd S R k1 d tv) (h2 : Kf base F F wr w1) : RwS w base F c g gd S R d tv bx b4 cs k1 w1 :=
  ⟨h1, h.kf.trans h2, (h2.rest bx h.row.lt hx).trans h.row, (h2.rest b4 h.out.lt h4).trans h.out⟩
theorem RS.other (h : RS wr base F c g gd S R k' d tv) {b j : Nat} {v : Value} (hb : b < wr.heap.size) (hF : ¬ F b) (hc : b ≠ c) (hbb : base ≤ b) : RS (wr.setCell ⟨b, j, none⟩ v) base F c g gd S R k' d tv := by
  have ho : ∀ x, x ≠ b → (wr.setCell ⟨b, j, none⟩ v).heap[x]? = wr.heap[x]? := fun x hx => heap_setCell_other wr ⟨b, j, none⟩ x v hx
  have hz : (wr.setCell ⟨b, j, none⟩ v).heap.size = wr.heap.size := by simp [World.setCell]
  refine ⟨(ho c (Ne.symm hc)).trans h.cur, (ho g (fun e => hF (e ▸ h.Fg))).trans h.rd, h.hk, (ho gd (fun e => hF (e ▸ h.Fd))).trans h.dat, ?_, h.bg, h.bd, h.Fg, h.Fd, h.Fo, h.Fc, fun j hj => by rw [hz]; exact h.Fl j hj⟩
  refine World.ownsRow.kept h.own (grown_one wr b j v) ?_
  by_cases hn : tv.ownBlock = none
  · exact .inl hn
  · exact .inr fun e => hF (h.Fo b e)
theorem RwS.put (h : RwS w base F c g gd S R d tv bx b4 cs k' wr) (hx : ¬ F bx) (hw : w.heap.size ≤ bx) (hc : bx ≠ c) (hb : base ≤ w.heap.size) (h4 : b4 ≠ bx) (j : Nat) (v : Value) : RwS w base F c g gd S R d tv bx b4 (cs.setIfInBounds j v) k' (wr.setCell ⟨bx, j, none⟩ v) := by
  refine ⟨h.rs.other h.row.lt hx hc (Nat.le_trans hb hw), ⟨h.kf.below.setCell (Nat.le_trans hb hw) v, fun x hxl hF => (heap_setCell_other wr ⟨bx, j, none⟩ x v (fun e => by have e : x = bx := e; omega)).trans (h.kf.rest x hxl hF), h.kf.sub⟩, h.row.set j v, (heap_setCell_other wr ⟨bx, j, none⟩ b4 v h4).trans h.out⟩
end
theorem RwS.fin5 {w wr : World} {base c g gd : Nat} {F : Nat → Prop} {S R : ByteArray} {k' : Nat} {d : MD} {tv : Value} {bx b4 : Nat} {cs : Array Value} (h : RwS w base F c g gd S R d tv bx b4 cs k' wr) (hx : ¬ F b4) (hw : w.heap.size ≤ b4) (hc : b4 ≠ c) (hb : base ≤ w.heap.size) (v0 v1 v2 v3 v4 : Value) :
    Lies (((((wr.setCell ⟨b4, 0, none⟩ v0).setCell ⟨b4, 1, none⟩ v1).setCell ⟨b4, 2, none⟩ v2).setCell ⟨b4, 3, none⟩ v3).setCell ⟨b4, 4, none⟩ v4) b4 27 #[v0, v1, v2, v3, v4] ∧
    RS (((((wr.setCell ⟨b4, 0, none⟩ v0).setCell ⟨b4, 1, none⟩ v1).setCell ⟨b4, 2, none⟩ v2).setCell ⟨b4, 3, none⟩ v3).setCell ⟨b4, 4, none⟩ v4) base F c g gd S R k' d tv ∧
    Kf base F F w (((((wr.setCell ⟨b4, 0, none⟩ v0).setCell ⟨b4, 1, none⟩ v1).setCell ⟨b4, 2, none⟩ v2).setCell ⟨b4, 3, none⟩ v3).setCell ⟨b4, 4, none⟩ v4) := by
  have L0 := h.out
  have L1 : Lies (wr.setCell ⟨b4, 0, none⟩ v0) b4 27 _ := L0.set 0 v0
  have L2 := L1.set 1 v1
  have L3 := L2.set 2 v2
  have L4 := L3.set 3 v3
  have L5 := L4.set 4 v4
  have hbb := Nat.le_trans hb hw
  have r1 := h.rs.other (j := 0) (v := v0) L0.lt hx hc hbb
  have r2 := r1.other (j := 1) (v := v1) L1.lt hx hc hbb
  have r3 := r2.other (j := 2) (v := v2) L2.lt hx hc hbb
  have r4 := r3.other (j := 3) (v := v3) L3.lt hx hc hbb
  have r5 := r4.other (j := 4) (v := v4) L4.lt hx hc hbb
  refine ⟨L5, r5, ⟨((((h.kf.below.setCell hbb v0).setCell hbb v1).setCell hbb v2).setCell hbb v3).setCell hbb v4, fun x hxl hF => ?_, h.kf.sub⟩⟩
  have hne : x ≠ b4 := by omega
  exact (heap_setCell_other _ ⟨b4, 4, none⟩ x v4 hne).trans ((heap_setCell_other _ ⟨b4, 3, none⟩ x v3 hne).trans ((heap_setCell_other _ ⟨b4, 2, none⟩ x v2 hne).trans ((heap_setCell_other _ ⟨b4, 1, none⟩ x v1 hne).trans ((heap_setCell_other wr ⟨b4, 0, none⟩ x v0 hne).trans (h.kf.rest x hxl hF)))))
theorem num_cons {R : List UInt8} {n k : Nat} {ns : List Nat} : rdNums R (n :: ns) k = if n = 0 then ⟨0 :: (rdNums R ns k).v, (rdNums R ns k).e, (rdNums R ns k).k⟩
    else if (numR R k n).e ≠ 0 then ⟨[], (numR R k n).e, (numR R k n).k⟩ else ⟨num (numR R k n).s :: (rdNums R ns (numR R k n).k).v, (rdNums R ns (numR R k n).k).e, (rdNums R ns (numR R k n).k).k⟩ := rfl
/-- What is left to be read, q, and what all comes to, Q. -/
def RwQ (xs : List Nat) (q Q : Vr) : Prop := Q.e = q.e ∧ (q.e = 0 → Q.k = q.k ∧ Q.v = xs ++ q.v)
theorem RwQ.skip {xs : List Nat} {R : List UInt8} {k : Nat} {ns : List Nat} {Q : Vr} (h : RwQ xs (rdNums R ((0 : Int).toNat :: ns) k) Q) : RwQ (xs ++ [0]) (rdNums R ns k) Q := by
  rw [num_cons, if_pos (by decide)] at h
  exact ⟨h.1, fun he => ⟨(h.2 he).1, by rw [(h.2 he).2, List.append_assoc]; rfl⟩⟩
theorem RwQ.ok {xs : List Nat} {R : List UInt8} {k n : Nat} {ns : List Nat} {Q : Vr} (h : RwQ xs (rdNums R (n :: ns) k) Q) (hn : n ≠ 0) (h0 : (numR R k n).e = 0) : RwQ (xs ++ [num (numR R k n).s]) (rdNums R ns (numR R k n).k) Q := by
  rw [num_cons, if_neg hn, if_neg (fun hx => hx h0)] at h
  exact ⟨h.1, fun he => ⟨(h.2 he).1, by rw [(h.2 he).2, List.append_assoc]; rfl⟩⟩
theorem RwQ.bad {xs : List Nat} {R : List UInt8} {k n : Nat} {ns : List Nat} {Q : Vr} (h : RwQ xs (rdNums R (n :: ns) k) Q) (hn : n ≠ 0) (h0 : (numR R k n).e ≠ 0) : Q.e = (numR R k n).e := by
  rw [num_cons, if_neg hn, if_pos h0] at h
  exact h.1
/-- What the reading hands back. -/
def WrR (w : World) (base : Nat) (F : Nat → Prop) (c g gd : Nat) (S R : ByteArray) (d : MD) (tv : Value) (Q : Vr) (e : Ending) (w' : World) : Prop :=
  ∃ x0 x1 x2 x3 x4 k', e = .returned (.tuple #[nsV x0 x1 x2 x3 x4, .int .i64 (Q.e : Int)]) ∧ RS w' base F c g gd S R k' d tv ∧ Kf base F F w w' ∧ (Q.e = 0 → k' = Q.k ∧ [x0, x1, x2, x3, x4] = Q.v)
/-- Where the loop stands. -/
def RwRel (a b c' d' e : Int) (w : World) (base : Nat) (F : Nat → Prop) (c g gd : Nat) (S R : ByteArray) (d : MD) (tv : Value) (bx b4 : Nat) (Q : Vr) (i : Value) (wr : World) : Prop :=
  (i = .int .i64 0 ∧ ∃ k' : Nat, RwS w base F c g gd S R d tv bx b4 (nsC 0 0 0 0 0) k' wr ∧ RwQ [] (rdNums (bs R) [a.toNat, b.toNat, c'.toNat, d'.toNat, e.toNat] k') Q) ∨ (i = .int .i64 1 ∧ ∃ x0 k' : Nat, RwS w base F c g gd S R d tv bx b4 (nsC x0 0 0 0 0) k' wr ∧ RwQ [x0] (rdNums (bs R) [b.toNat, c'.toNat, d'.toNat, e.toNat] k') Q) ∨ (i = .int .i64 2 ∧ ∃ x0 x1 k' : Nat, RwS w base F c g gd S R d tv bx b4 (nsC x0 x1 0 0 0) k' wr ∧ RwQ [x0, x1] (rdNums (bs R) [c'.toNat, d'.toNat, e.toNat] k') Q) ∨ (i = .int .i64 3 ∧ ∃ x0 x1 x2 k' : Nat, RwS w base F c g gd S R d tv bx b4 (nsC x0 x1 x2 0 0) k' wr ∧ RwQ [x0, x1, x2] (rdNums (bs R) [d'.toNat, e.toNat] k') Q) ∨ (i = .int .i64 4 ∧ ∃ x0 x1 x2 x3 k' : Nat, RwS w base F c g gd S R d tv bx b4 (nsC x0 x1 x2 x3 0) k' wr ∧ RwQ [x0, x1, x2, x3] (rdNums (bs R) [e.toNat] k') Q) ∨ (i = .int .i64 5 ∧ ∃ x0 x1 x2 x3 x4 k' : Nat, RwS w base F c g gd S R d tv bx b4 (nsC x0 x1 x2 x3 x4) k' wr ∧ RwQ [x0, x1, x2, x3, x4] (rdNums (bs R) [] k') Q)
set_option maxHeartbeats 8000000 in
theorem wRead_any (a b c' d' e : Int) {w : World} {base c g gd : Nat} {F : Nat → Prop} {S R : ByteArray} {k : Nat} {d : MD} {tv : Value} (h : RS w base F c g gd S R k d tv) (hR : R.size ≤ 1099511627776) (ha : Wd a) (hb : Wd b) (hc : Wd c') (hd : Wd d') (he : Wd e) :
    Calls Tryz.prog 194 #[wsV a b c' d' e, pp c] w (WrR w base F c g gd S R d tv (rdNums (bs R) (wsL a b c' d' e) k)) := by
  obtain ⟨Q, hQ⟩ : ∃ Q, rdNums (bs R) (wsL a b c' d' e) k = Q := ⟨_, rfl⟩
  rw [hQ]
  obtain ⟨W, hW⟩ : ∃ W, W = ((w.alloc (.cells #[.int .i64 a, .int .i64 b, .int .i64 c', .int .i64 d', .int .i64 e] 212)).alloc (.cells nsZ 27)).alloc (.cells nsZ 27) := ⟨_, rfl⟩
  have hb3 : Below w.heap.size w W := by rw [hW]; exact (((Below.refl _ _).alloc (Nat.le_refl _) _).alloc (by simp) _).alloc (by simp; omega) _
  have hL4 : Lies W (w.heap.size + 1) 27 nsZ := by
    have := (Lies.new (w.alloc (.cells #[.int .i64 a, .int .i64 b, .int .i64 c', .int .i64 d', .int .i64 e] 212)) 27 nsZ).alloc (.cells nsZ 27)
    rw [hW]
    simpa using this
  have hLx : Lies W (w.heap.size + 1 + 1) 27 nsZ := by
    have := Lies.new ((w.alloc (.cells #[.int .i64 a, .int .i64 b, .int .i64 c', .int .i64 d', .int .i64 e] 212)).alloc (.cells nsZ 27)) 27 nsZ
    rw [hW]
    simpa using this
  have hL0 : Lies W w.heap.size 212 #[.int .i64 a, .int .i64 b, .int .i64 c', .int .i64 d', .int .i64 e] := by rw [hW]; exact ((Lies.new w _ _).alloc _).alloc _
  have HF4 : Hid (¬ F (w.heap.size + 1)) := Lib.hid fun hf => by have := (h.Fl _ hf).2; omega
  have HFx : Hid (¬ F (w.heap.size + 1 + 1)) := Lib.hid fun hf => by have := (h.Fl _ hf).2; omega
  have hcl := h.cur.lt
  have Hc : Hid (w.heap.size + 1 + 1 ≠ c ∧ w.heap.size + 1 ≠ c) := Lib.hid ⟨by omega, by omega⟩
  have Hbase := Lib.hid h.base_le
  obtain ⟨hr, hk⟩ := h.next hb3
  have HI := Lib.hid (fun w => ixW a b c' d' e w)
  have HA := Lib.hid ha
  have HBd := Lib.hid hb
  have HC := Lib.hid hc
  have HD := Lib.hid hd
  have HE := Lib.hid he
  have H0 : Hid (RwRel a b c' d' e w base F c g gd S R d tv (w.heap.size + 1 + 1) (w.heap.size + 1) Q (.int .i64 0) W) := Lib.hid (.inl ⟨rfl, k, ⟨hr, hk, hLx, hL4⟩, by rw [← hQ]; exact ⟨rfl, fun _ => ⟨rfl, rfl⟩⟩⟩)
  have c0 := hL0.cell 0
  have c1 := hL0.cell 1
  have c2 := hL0.cell 2
  have c3 := hL0.cell 3
  have c4 := hL0.cell 4
  clear hQ ha hb hc hd he h hr hk hb3 hLx hL4 hcl
  go_enter Tryz.func194, Tryz.ntmps194
  go_upto_region 2 with (fail)
  rw [← hW]
  clear hW
  go_wp2
  clear c0 c1 c2 c3 c4 hL0
  go_loopw [12] (fun i wr => RwRel a b c' d' e w base F c g gd S R d tv (w.heap.size + 1 + 1) (w.heap.size + 1) Q i wr) (fun i _ => 5 - (intOf i).toNat)
  case atStart => exact H0.out
  case round =>
    clear H0
    rcases hrel with ⟨rfl, hR'⟩ | ⟨rfl, hR'⟩ | ⟨rfl, hR'⟩ | ⟨rfl, hR'⟩ | ⟨rfl, hR'⟩ | ⟨rfl, hR'⟩
    · obtain ⟨k', hs, hq⟩ := hR'
      have hi := fun w => (HI.out w).1
      have hcc := hs.rs.curCells.1
      have f4 := fun j => hs.out.free j
      have HSt := Lib.hid hs
      have HQ := Lib.hid hq
      clear hs hq
      rcases HA.out with rfl | rfl | rfl
      · clear f4
        go_wp2
        exact ⟨.inr (.inl ⟨rfl, 0, k', HSt.out, HQ.out.skip⟩), by decide⟩
      · have HN := Lib.hid (numb_cu HSt.out.rs hR 2)
        have HOK := Lib.hid fun h0 => HQ.out.ok (by decide) h0
        have HBAD := Lib.hid fun h0 => HQ.out.bad (by decide) h0
        obtain ⟨z, hz⟩ : ∃ z, numR (bs R) k' ((2 : Int).toNat : Nat) = z := ⟨_, rfl⟩
        have hz' : numR (bs R) k' 2 = z := hz
        rw [hz'] at HN
        rw [hz] at HOK HBAD
        clear hz hz'
        by_cases h0 : z.e = 0
        · have HOK2 := Lib.hid (HOK.out h0)
          rw [h0] at HN
          clear h0 HOK HBAD f4
          go_wp2_with (go_at_call 118; (with_reducible refine HN.out.mono ?_); rintro e w1 ⟨rfl, h1, h2⟩; have hs1 := HSt.out.next HFx.out HF4.out h1 h2; have g0 := hs1.row.cell 0; have g1 := hs1.row.free 0; have H1 := Lib.hid hs1; clear hs1 h1 h2)
          exact ⟨.inr (.inl ⟨rfl, _, _, H1.out.put HFx.out (by omega) Hc.out.1 Hbase.out (by omega) 0 _, HOK2.out⟩), by decide⟩
        · have HE := Lib.hid (HBAD.out h0)
          have hne : ((z.e : Int) != 0) = true := by rw [bne_iff_ne]; omega
          have HE0 : Hid (Q.e ≠ 0) := Lib.hid (by rw [HE.out]; exact h0)
          clear h0 HOK HBAD f4
          go_wp2_with (go_at_call 118; (with_reducible refine HN.out.mono ?_); rintro e w1 ⟨rfl, h1, h2⟩; have hs1 := HSt.out.next HFx.out HF4.out h1 h2; have g0 := hs1.out.cell 0; have g1 := hs1.out.cell 1; have g2 := hs1.out.cell 2; have g3 := hs1.out.cell 3; have g4 := hs1.out.cell 4; have fr := fun j => hs1.out.free j; have H1 := Lib.hid hs1; clear hs1 h1 h2)
          obtain ⟨hl, hrs, hkf⟩ := H1.out.fin5 HF4.out (by omega) Hc.out.2 Hbase.out (.int .u32 0) (.int .u32 0) (.int .u32 0) (.int .u32 0) (.int .u32 0)
          have k0 := hl.cell 0
          have k1 := hl.cell 1
          have k2 := hl.cell 2
          have k3 := hl.cell 3
          have k4 := hl.cell 4
          refine bodyPost_ret (v := .tuple #[nsV 0 0 0 0 0, .int .i64 (z.e : Int)]) (by simp [results, Tryz.results194, go_sem, k0, k1, k2, k3, k4]) rfl ?_
          exact ⟨0, 0, 0, 0, 0, _, by rw [HE.out], hrs, hkf, fun h0 => absurd h0 HE0.out⟩
      · have HN := Lib.hid (numb_cu HSt.out.rs hR 4)
        have HOK := Lib.hid fun h0 => HQ.out.ok (by decide) h0
        have HBAD := Lib.hid fun h0 => HQ.out.bad (by decide) h0
        obtain ⟨z, hz⟩ : ∃ z, numR (bs R) k' ((4 : Int).toNat : Nat) = z := ⟨_, rfl⟩
        have hz' : numR (bs R) k' 4 = z := hz
        rw [hz'] at HN
        rw [hz] at HOK HBAD
        clear hz hz'
        by_cases h0 : z.e = 0
        · have HOK2 := Lib.hid (HOK.out h0)
          rw [h0] at HN
          clear h0 HOK HBAD f4
          go_wp2_with (go_at_call 118; (with_reducible refine HN.out.mono ?_); rintro e w1 ⟨rfl, h1, h2⟩; have hs1 := HSt.out.next HFx.out HF4.out h1 h2; have g0 := hs1.row.cell 0; have g1 := hs1.row.free 0; have H1 := Lib.hid hs1; clear hs1 h1 h2)
          exact ⟨.inr (.inl ⟨rfl, _, _, H1.out.put HFx.out (by omega) Hc.out.1 Hbase.out (by omega) 0 _, HOK2.out⟩), by decide⟩
        · have HE := Lib.hid (HBAD.out h0)
          have hne : ((z.e : Int) != 0) = true := by rw [bne_iff_ne]; omega
          have HE0 : Hid (Q.e ≠ 0) := Lib.hid (by rw [HE.out]; exact h0)
          clear h0 HOK HBAD f4
          go_wp2_with (go_at_call 118; (with_reducible refine HN.out.mono ?_); rintro e w1 ⟨rfl, h1, h2⟩; have hs1 := HSt.out.next HFx.out HF4.out h1 h2; have g0 := hs1.out.cell 0; have g1 := hs1.out.cell 1; have g2 := hs1.out.cell 2; have g3 := hs1.out.cell 3; have g4 := hs1.out.cell 4; have fr := fun j => hs1.out.free j; have H1 := Lib.hid hs1; clear hs1 h1 h2)
          obtain ⟨hl, hrs, hkf⟩ := H1.out.fin5 HF4.out (by omega) Hc.out.2 Hbase.out (.int .u32 0) (.int .u32 0) (.int .u32 0) (.int .u32 0) (.int .u32 0)
          have k0 := hl.cell 0
          have k1 := hl.cell 1
          have k2 := hl.cell 2
          have k3 := hl.cell 3
          have k4 := hl.cell 4
          refine bodyPost_ret (v := .tuple #[nsV 0 0 0 0 0, .int .i64 (z.e : Int)]) (by simp [results, Tryz.results194, go_sem, k0, k1, k2, k3, k4]) rfl ?_
          exact ⟨0, 0, 0, 0, 0, _, by rw [HE.out], hrs, hkf, fun h0 => absurd h0 HE0.out⟩
    · obtain ⟨x0, k', hs, hq⟩ := hR'
      have hi := fun w => (HI.out w).2.1
      have hcc := hs.rs.curCells.1
      have f4 := fun j => hs.out.free j
      have HSt := Lib.hid hs
      have HQ := Lib.hid hq
      clear hs hq
      rcases HBd.out with rfl | rfl | rfl
      · clear f4
        go_wp2
        exact ⟨.inr (.inr (.inl ⟨rfl, x0, 0, k', HSt.out, HQ.out.skip⟩)), by decide⟩
      · have HN := Lib.hid (numb_cu HSt.out.rs hR 2)
        have HOK := Lib.hid fun h0 => HQ.out.ok (by decide) h0
        have HBAD := Lib.hid fun h0 => HQ.out.bad (by decide) h0
        obtain ⟨z, hz⟩ : ∃ z, numR (bs R) k' ((2 : Int).toNat : Nat) = z := ⟨_, rfl⟩
        have hz' : numR (bs R) k' 2 = z := hz
        rw [hz'] at HN
        rw [hz] at HOK HBAD
        clear hz hz'
        by_cases h0 : z.e = 0
        · have HOK2 := Lib.hid (HOK.out h0)
          rw [h0] at HN
          clear h0 HOK HBAD f4
          go_wp2_with (go_at_call 118; (with_reducible refine HN.out.mono ?_); rintro e w1 ⟨rfl, h1, h2⟩; have hs1 := HSt.out.next HFx.out HF4.out h1 h2; have g0 := hs1.row.cell 1; have g1 := hs1.row.free 1; have H1 := Lib.hid hs1; clear hs1 h1 h2)
          exact ⟨.inr (.inr (.inl ⟨rfl, x0, _, _, H1.out.put HFx.out (by omega) Hc.out.1 Hbase.out (by omega) 1 _, HOK2.out⟩)), by decide⟩
        · have HE := Lib.hid (HBAD.out h0)
          have hne : ((z.e : Int) != 0) = true := by rw [bne_iff_ne]; omega
          have HE0 : Hid (Q.e ≠ 0) := Lib.hid (by rw [HE.out]; exact h0)
          clear h0 HOK HBAD f4
          go_wp2_with (go_at_call 118; (with_reducible refine HN.out.mono ?_); rintro e w1 ⟨rfl, h1, h2⟩; have hs1 := HSt.out.next HFx.out HF4.out h1 h2; have g0 := hs1.out.cell 0; have g1 := hs1.out.cell 1; have g2 := hs1.out.cell 2; have g3 := hs1.out.cell 3; have g4 := hs1.out.cell 4; have fr := fun j => hs1.out.free j; have H1 := Lib.hid hs1; clear hs1 h1 h2)
          obtain ⟨hl, hrs, hkf⟩ := H1.out.fin5 HF4.out (by omega) Hc.out.2 Hbase.out (.int .u32 0) (.int .u32 0) (.int .u32 0) (.int .u32 0) (.int .u32 0)
          have k0 := hl.cell 0
          have k1 := hl.cell 1
          have k2 := hl.cell 2
          have k3 := hl.cell 3
          have k4 := hl.cell 4
          refine bodyPost_ret (v := .tuple #[nsV 0 0 0 0 0, .int .i64 (z.e : Int)]) (by simp [results, Tryz.results194, go_sem, k0, k1, k2, k3, k4]) rfl ?_
          exact ⟨0, 0, 0, 0, 0, _, by rw [HE.out], hrs, hkf, fun h0 => absurd h0 HE0.out⟩
      · have HN := Lib.hid (numb_cu HSt.out.rs hR 4)
        have HOK := Lib.hid fun h0 => HQ.out.ok (by decide) h0
        have HBAD := Lib.hid fun h0 => HQ.out.bad (by decide) h0
        obtain ⟨z, hz⟩ : ∃ z, numR (bs R) k' ((4 : Int).toNat : Nat) = z := ⟨_, rfl⟩
        have hz' : numR (bs R) k' 4 = z := hz
        rw [hz'] at HN
        rw [hz] at HOK HBAD
        clear hz hz'
        by_cases h0 : z.e = 0
        · have HOK2 := Lib.hid (HOK.out h0)
          rw [h0] at HN
          clear h0 HOK HBAD f4
          go_wp2_with (go_at_call 118; (with_reducible refine HN.out.mono ?_); rintro e w1 ⟨rfl, h1, h2⟩; have hs1 := HSt.out.next HFx.out HF4.out h1 h2; have g0 := hs1.row.cell 1; have g1 := hs1.row.free 1; have H1 := Lib.hid hs1; clear hs1 h1 h2)
          exact ⟨.inr (.inr (.inl ⟨rfl, x0, _, _, H1.out.put HFx.out (by omega) Hc.out.1 Hbase.out (by omega) 1 _, HOK2.out⟩)), by decide⟩
        · have HE := Lib.hid (HBAD.out h0)
          have hne : ((z.e : Int) != 0) = true := by rw [bne_iff_ne]; omega
          have HE0 : Hid (Q.e ≠ 0) := Lib.hid (by rw [HE.out]; exact h0)
          clear h0 HOK HBAD f4
          go_wp2_with (go_at_call 118; (with_reducible refine HN.out.mono ?_); rintro e w1 ⟨rfl, h1, h2⟩; have hs1 := HSt.out.next HFx.out HF4.out h1 h2; have g0 := hs1.out.cell 0; have g1 := hs1.out.cell 1; have g2 := hs1.out.cell 2; have g3 := hs1.out.cell 3; have g4 := hs1.out.cell 4; have fr := fun j => hs1.out.free j; have H1 := Lib.hid hs1; clear hs1 h1 h2)
          obtain ⟨hl, hrs, hkf⟩ := H1.out.fin5 HF4.out (by omega) Hc.out.2 Hbase.out (.int .u32 0) (.int .u32 0) (.int .u32 0) (.int .u32 0) (.int .u32 0)
          have k0 := hl.cell 0
          have k1 := hl.cell 1
          have k2 := hl.cell 2
          have k3 := hl.cell 3
          have k4 := hl.cell 4
          refine bodyPost_ret (v := .tuple #[nsV 0 0 0 0 0, .int .i64 (z.e : Int)]) (by simp [results, Tryz.results194, go_sem, k0, k1, k2, k3, k4]) rfl ?_
          exact ⟨0, 0, 0, 0, 0, _, by rw [HE.out], hrs, hkf, fun h0 => absurd h0 HE0.out⟩
    · obtain ⟨x0, x1, k', hs, hq⟩ := hR'
      have hi := fun w => (HI.out w).2.2.1
      have hcc := hs.rs.curCells.1
      have f4 := fun j => hs.out.free j
      have HSt := Lib.hid hs
      have HQ := Lib.hid hq
      clear hs hq
      rcases HC.out with rfl | rfl | rfl
      · clear f4
        go_wp2
        exact ⟨.inr (.inr (.inr (.inl ⟨rfl, x0, x1, 0, k', HSt.out, HQ.out.skip⟩))), by decide⟩
      · have HN := Lib.hid (numb_cu HSt.out.rs hR 2)
        have HOK := Lib.hid fun h0 => HQ.out.ok (by decide) h0
        have HBAD := Lib.hid fun h0 => HQ.out.bad (by decide) h0
        obtain ⟨z, hz⟩ : ∃ z, numR (bs R) k' ((2 : Int).toNat : Nat) = z := ⟨_, rfl⟩
        have hz' : numR (bs R) k' 2 = z := hz
        rw [hz'] at HN
        rw [hz] at HOK HBAD
        clear hz hz'
        by_cases h0 : z.e = 0
        · have HOK2 := Lib.hid (HOK.out h0)
          rw [h0] at HN
          clear h0 HOK HBAD f4
          go_wp2_with (go_at_call 118; (with_reducible refine HN.out.mono ?_); rintro e w1 ⟨rfl, h1, h2⟩; have hs1 := HSt.out.next HFx.out HF4.out h1 h2; have g0 := hs1.row.cell 2; have g1 := hs1.row.free 2; have H1 := Lib.hid hs1; clear hs1 h1 h2)
          exact ⟨.inr (.inr (.inr (.inl ⟨rfl, x0, x1, _, _, H1.out.put HFx.out (by omega) Hc.out.1 Hbase.out (by omega) 2 _, HOK2.out⟩))), by decide⟩
        · have HE := Lib.hid (HBAD.out h0)
          have hne : ((z.e : Int) != 0) = true := by rw [bne_iff_ne]; omega
          have HE0 : Hid (Q.e ≠ 0) := Lib.hid (by rw [HE.out]; exact h0)
          clear h0 HOK HBAD f4
          go_wp2_with (go_at_call 118; (with_reducible refine HN.out.mono ?_); rintro e w1 ⟨rfl, h1, h2⟩; have hs1 := HSt.out.next HFx.out HF4.out h1 h2; have g0 := hs1.out.cell 0; have g1 := hs1.out.cell 1; have g2 := hs1.out.cell 2; have g3 := hs1.out.cell 3; have g4 := hs1.out.cell 4; have fr := fun j => hs1.out.free j; have H1 := Lib.hid hs1; clear hs1 h1 h2)
          obtain ⟨hl, hrs, hkf⟩ := H1.out.fin5 HF4.out (by omega) Hc.out.2 Hbase.out (.int .u32 0) (.int .u32 0) (.int .u32 0) (.int .u32 0) (.int .u32 0)
          have k0 := hl.cell 0
          have k1 := hl.cell 1
          have k2 := hl.cell 2
          have k3 := hl.cell 3
          have k4 := hl.cell 4
          refine bodyPost_ret (v := .tuple #[nsV 0 0 0 0 0, .int .i64 (z.e : Int)]) (by simp [results, Tryz.results194, go_sem, k0, k1, k2, k3, k4]) rfl ?_
          exact ⟨0, 0, 0, 0, 0, _, by rw [HE.out], hrs, hkf, fun h0 => absurd h0 HE0.out⟩
      · have HN := Lib.hid (numb_cu HSt.out.rs hR 4)
        have HOK := Lib.hid fun h0 => HQ.out.ok (by decide) h0
        have HBAD := Lib.hid fun h0 => HQ.out.bad (by decide) h0
        obtain ⟨z, hz⟩ : ∃ z, numR (bs R) k' ((4 : Int).toNat : Nat) = z := ⟨_, rfl⟩
        have hz' : numR (bs R) k' 4 = z := hz
        rw [hz'] at HN
        rw [hz] at HOK HBAD
        clear hz hz'
        by_cases h0 : z.e = 0
        · have HOK2 := Lib.hid (HOK.out h0)
          rw [h0] at HN
          clear h0 HOK HBAD f4
          go_wp2_with (go_at_call 118; (with_reducible refine HN.out.mono ?_); rintro e w1 ⟨rfl, h1, h2⟩; have hs1 := HSt.out.next HFx.out HF4.out h1 h2; have g0 := hs1.row.cell 2; have g1 := hs1.row.free 2; have H1 := Lib.hid hs1; clear hs1 h1 h2)
          exact ⟨.inr (.inr (.inr (.inl ⟨rfl, x0, x1, _, _, H1.out.put HFx.out (by omega) Hc.out.1 Hbase.out (by omega) 2 _, HOK2.out⟩))), by decide⟩
        · have HE := Lib.hid (HBAD.out h0)
          have hne : ((z.e : Int) != 0) = true := by rw [bne_iff_ne]; omega
          have HE0 : Hid (Q.e ≠ 0) := Lib.hid (by rw [HE.out]; exact h0)
          clear h0 HOK HBAD f4
          go_wp2_with (go_at_call 118; (with_reducible refine HN.out.mono ?_); rintro e w1 ⟨rfl, h1, h2⟩; have hs1 := HSt.out.next HFx.out HF4.out h1 h2; have g0 := hs1.out.cell 0; have g1 := hs1.out.cell 1; have g2 := hs1.out.cell 2; have g3 := hs1.out.cell 3; have g4 := hs1.out.cell 4; have fr := fun j => hs1.out.free j; have H1 := Lib.hid hs1; clear hs1 h1 h2)
          obtain ⟨hl, hrs, hkf⟩ := H1.out.fin5 HF4.out (by omega) Hc.out.2 Hbase.out (.int .u32 0) (.int .u32 0) (.int .u32 0) (.int .u32 0) (.int .u32 0)
          have k0 := hl.cell 0
          have k1 := hl.cell 1
          have k2 := hl.cell 2
          have k3 := hl.cell 3
          have k4 := hl.cell 4
          refine bodyPost_ret (v := .tuple #[nsV 0 0 0 0 0, .int .i64 (z.e : Int)]) (by simp [results, Tryz.results194, go_sem, k0, k1, k2, k3, k4]) rfl ?_
          exact ⟨0, 0, 0, 0, 0, _, by rw [HE.out], hrs, hkf, fun h0 => absurd h0 HE0.out⟩
    · obtain ⟨x0, x1, x2, k', hs, hq⟩ := hR'
      have hi := fun w => (HI.out w).2.2.2.1
      have hcc := hs.rs.curCells.1
      have f4 := fun j => hs.out.free j
      have HSt := Lib.hid hs
      have HQ := Lib.hid hq
      clear hs hq
      rcases HD.out with rfl | rfl | rfl
      · clear f4
        go_wp2
        exact ⟨.inr (.inr (.inr (.inr (.inl ⟨rfl, x0, x1, x2, 0, k', HSt.out, HQ.out.skip⟩)))), by decide⟩
      · have HN := Lib.hid (numb_cu HSt.out.rs hR 2)
        have HOK := Lib.hid fun h0 => HQ.out.ok (by decide) h0
        have HBAD := Lib.hid fun h0 => HQ.out.bad (by decide) h0
        obtain ⟨z, hz⟩ : ∃ z, numR (bs R) k' ((2 : Int).toNat : Nat) = z := ⟨_, rfl⟩
        have hz' : numR (bs R) k' 2 = z := hz
        rw [hz'] at HN
        rw [hz] at HOK HBAD
        clear hz hz'
        by_cases h0 : z.e = 0
        · have HOK2 := Lib.hid (HOK.out h0)
          rw [h0] at HN
          clear h0 HOK HBAD f4
          go_wp2_with (go_at_call 118; (with_reducible refine HN.out.mono ?_); rintro e w1 ⟨rfl, h1, h2⟩; have hs1 := HSt.out.next HFx.out HF4.out h1 h2; have g0 := hs1.row.cell 3; have g1 := hs1.row.free 3; have H1 := Lib.hid hs1; clear hs1 h1 h2)
          exact ⟨.inr (.inr (.inr (.inr (.inl ⟨rfl, x0, x1, x2, _, _, H1.out.put HFx.out (by omega) Hc.out.1 Hbase.out (by omega) 3 _, HOK2.out⟩)))), by decide⟩
        · have HE := Lib.hid (HBAD.out h0)
          have hne : ((z.e : Int) != 0) = true := by rw [bne_iff_ne]; omega
          have HE0 : Hid (Q.e ≠ 0) := Lib.hid (by rw [HE.out]; exact h0)
          clear h0 HOK HBAD f4
          go_wp2_with (go_at_call 118; (with_reducible refine HN.out.mono ?_); rintro e w1 ⟨rfl, h1, h2⟩; have hs1 := HSt.out.next HFx.out HF4.out h1 h2; have g0 := hs1.out.cell 0; have g1 := hs1.out.cell 1; have g2 := hs1.out.cell 2; have g3 := hs1.out.cell 3; have g4 := hs1.out.cell 4; have fr := fun j => hs1.out.free j; have H1 := Lib.hid hs1; clear hs1 h1 h2)
          obtain ⟨hl, hrs, hkf⟩ := H1.out.fin5 HF4.out (by omega) Hc.out.2 Hbase.out (.int .u32 0) (.int .u32 0) (.int .u32 0) (.int .u32 0) (.int .u32 0)
          have k0 := hl.cell 0
          have k1 := hl.cell 1
          have k2 := hl.cell 2
          have k3 := hl.cell 3
          have k4 := hl.cell 4
          refine bodyPost_ret (v := .tuple #[nsV 0 0 0 0 0, .int .i64 (z.e : Int)]) (by simp [results, Tryz.results194, go_sem, k0, k1, k2, k3, k4]) rfl ?_
          exact ⟨0, 0, 0, 0, 0, _, by rw [HE.out], hrs, hkf, fun h0 => absurd h0 HE0.out⟩
      · have HN := Lib.hid (numb_cu HSt.out.rs hR 4)
        have HOK := Lib.hid fun h0 => HQ.out.ok (by decide) h0
        have HBAD := Lib.hid fun h0 => HQ.out.bad (by decide) h0
        obtain ⟨z, hz⟩ : ∃ z, numR (bs R) k' ((4 : Int).toNat : Nat) = z := ⟨_, rfl⟩
        have hz' : numR (bs R) k' 4 = z := hz
        rw [hz'] at HN
        rw [hz] at HOK HBAD
        clear hz hz'
        by_cases h0 : z.e = 0
        · have HOK2 := Lib.hid (HOK.out h0)
          rw [h0] at HN
          clear h0 HOK HBAD f4
          go_wp2_with (go_at_call 118; (with_reducible refine HN.out.mono ?_); rintro e w1 ⟨rfl, h1, h2⟩; have hs1 := HSt.out.next HFx.out HF4.out h1 h2; have g0 := hs1.row.cell 3; have g1 := hs1.row.free 3; have H1 := Lib.hid hs1; clear hs1 h1 h2)
          exact ⟨.inr (.inr (.inr (.inr (.inl ⟨rfl, x0, x1, x2, _, _, H1.out.put HFx.out (by omega) Hc.out.1 Hbase.out (by omega) 3 _, HOK2.out⟩)))), by decide⟩
        · have HE := Lib.hid (HBAD.out h0)
          have hne : ((z.e : Int) != 0) = true := by rw [bne_iff_ne]; omega
          have HE0 : Hid (Q.e ≠ 0) := Lib.hid (by rw [HE.out]; exact h0)
          clear h0 HOK HBAD f4
          go_wp2_with (go_at_call 118; (with_reducible refine HN.out.mono ?_); rintro e w1 ⟨rfl, h1, h2⟩; have hs1 := HSt.out.next HFx.out HF4.out h1 h2; have g0 := hs1.out.cell 0; have g1 := hs1.out.cell 1; have g2 := hs1.out.cell 2; have g3 := hs1.out.cell 3; have g4 := hs1.out.cell 4; have fr := fun j => hs1.out.free j; have H1 := Lib.hid hs1; clear hs1 h1 h2)
          obtain ⟨hl, hrs, hkf⟩ := H1.out.fin5 HF4.out (by omega) Hc.out.2 Hbase.out (.int .u32 0) (.int .u32 0) (.int .u32 0) (.int .u32 0) (.int .u32 0)
          have k0 := hl.cell 0
          have k1 := hl.cell 1
          have k2 := hl.cell 2
          have k3 := hl.cell 3
          have k4 := hl.cell 4
          refine bodyPost_ret (v := .tuple #[nsV 0 0 0 0 0, .int .i64 (z.e : Int)]) (by simp [results, Tryz.results194, go_sem, k0, k1, k2, k3, k4]) rfl ?_
          exact ⟨0, 0, 0, 0, 0, _, by rw [HE.out], hrs, hkf, fun h0 => absurd h0 HE0.out⟩
    · obtain ⟨x0, x1, x2, x3, k', hs, hq⟩ := hR'
      have hi := fun w => (HI.out w).2.2.2.2
      have hcc := hs.rs.curCells.1
      have f4 := fun j => hs.out.free j
      have HSt := Lib.hid hs
      have HQ := Lib.hid hq
      clear hs hq
      rcases HE.out with rfl | rfl | rfl
      · clear f4
        go_wp2
        exact ⟨.inr (.inr (.inr (.inr (.inr ⟨rfl, x0, x1, x2, x3, 0, k', HSt.out, HQ.out.skip⟩)))), by decide⟩
      · have HN := Lib.hid (numb_cu HSt.out.rs hR 2)
        have HOK := Lib.hid fun h0 => HQ.out.ok (by decide) h0
        have HBAD := Lib.hid fun h0 => HQ.out.bad (by decide) h0
        obtain ⟨z, hz⟩ : ∃ z, numR (bs R) k' ((2 : Int).toNat : Nat) = z := ⟨_, rfl⟩
        have hz' : numR (bs R) k' 2 = z := hz
        rw [hz'] at HN
        rw [hz] at HOK HBAD
        clear hz hz'
        by_cases h0 : z.e = 0
        · have HOK2 := Lib.hid (HOK.out h0)
          rw [h0] at HN
          clear h0 HOK HBAD f4
          go_wp2_with (go_at_call 118; (with_reducible refine HN.out.mono ?_); rintro e w1 ⟨rfl, h1, h2⟩; have hs1 := HSt.out.next HFx.out HF4.out h1 h2; have g0 := hs1.row.cell 4; have g1 := hs1.row.free 4; have H1 := Lib.hid hs1; clear hs1 h1 h2)
          exact ⟨.inr (.inr (.inr (.inr (.inr ⟨rfl, x0, x1, x2, x3, _, _, H1.out.put HFx.out (by omega) Hc.out.1 Hbase.out (by omega) 4 _, HOK2.out⟩)))), by decide⟩
        · have HE := Lib.hid (HBAD.out h0)
          have hne : ((z.e : Int) != 0) = true := by rw [bne_iff_ne]; omega
          have HE0 : Hid (Q.e ≠ 0) := Lib.hid (by rw [HE.out]; exact h0)
          clear h0 HOK HBAD f4
          go_wp2_with (go_at_call 118; (with_reducible refine HN.out.mono ?_); rintro e w1 ⟨rfl, h1, h2⟩; have hs1 := HSt.out.next HFx.out HF4.out h1 h2; have g0 := hs1.out.cell 0; have g1 := hs1.out.cell 1; have g2 := hs1.out.cell 2; have g3 := hs1.out.cell 3; have g4 := hs1.out.cell 4; have fr := fun j => hs1.out.free j; have H1 := Lib.hid hs1; clear hs1 h1 h2)
          obtain ⟨hl, hrs, hkf⟩ := H1.out.fin5 HF4.out (by omega) Hc.out.2 Hbase.out (.int .u32 0) (.int .u32 0) (.int .u32 0) (.int .u32 0) (.int .u32 0)
          have k0 := hl.cell 0
          have k1 := hl.cell 1
          have k2 := hl.cell 2
          have k3 := hl.cell 3
          have k4 := hl.cell 4
          refine bodyPost_ret (v := .tuple #[nsV 0 0 0 0 0, .int .i64 (z.e : Int)]) (by simp [results, Tryz.results194, go_sem, k0, k1, k2, k3, k4]) rfl ?_
          exact ⟨0, 0, 0, 0, 0, _, by rw [HE.out], hrs, hkf, fun h0 => absurd h0 HE0.out⟩
      · have HN := Lib.hid (numb_cu HSt.out.rs hR 4)
        have HOK := Lib.hid fun h0 => HQ.out.ok (by decide) h0
        have HBAD := Lib.hid fun h0 => HQ.out.bad (by decide) h0
        obtain ⟨z, hz⟩ : ∃ z, numR (bs R) k' ((4 : Int).toNat : Nat) = z := ⟨_, rfl⟩
        have hz' : numR (bs R) k' 4 = z := hz
        rw [hz'] at HN
        rw [hz] at HOK HBAD
        clear hz hz'
        by_cases h0 : z.e = 0
        · have HOK2 := Lib.hid (HOK.out h0)
          rw [h0] at HN
          clear h0 HOK HBAD f4
          go_wp2_with (go_at_call 118; (with_reducible refine HN.out.mono ?_); rintro e w1 ⟨rfl, h1, h2⟩; have hs1 := HSt.out.next HFx.out HF4.out h1 h2; have g0 := hs1.row.cell 4; have g1 := hs1.row.free 4; have H1 := Lib.hid hs1; clear hs1 h1 h2)
          exact ⟨.inr (.inr (.inr (.inr (.inr ⟨rfl, x0, x1, x2, x3, _, _, H1.out.put HFx.out (by omega) Hc.out.1 Hbase.out (by omega) 4 _, HOK2.out⟩)))), by decide⟩
        · have HE := Lib.hid (HBAD.out h0)
          have hne : ((z.e : Int) != 0) = true := by rw [bne_iff_ne]; omega
          have HE0 : Hid (Q.e ≠ 0) := Lib.hid (by rw [HE.out]; exact h0)
          clear h0 HOK HBAD f4
          go_wp2_with (go_at_call 118; (with_reducible refine HN.out.mono ?_); rintro e w1 ⟨rfl, h1, h2⟩; have hs1 := HSt.out.next HFx.out HF4.out h1 h2; have g0 := hs1.out.cell 0; have g1 := hs1.out.cell 1; have g2 := hs1.out.cell 2; have g3 := hs1.out.cell 3; have g4 := hs1.out.cell 4; have fr := fun j => hs1.out.free j; have H1 := Lib.hid hs1; clear hs1 h1 h2)
          obtain ⟨hl, hrs, hkf⟩ := H1.out.fin5 HF4.out (by omega) Hc.out.2 Hbase.out (.int .u32 0) (.int .u32 0) (.int .u32 0) (.int .u32 0) (.int .u32 0)
          have k0 := hl.cell 0
          have k1 := hl.cell 1
          have k2 := hl.cell 2
          have k3 := hl.cell 3
          have k4 := hl.cell 4
          refine bodyPost_ret (v := .tuple #[nsV 0 0 0 0 0, .int .i64 (z.e : Int)]) (by simp [results, Tryz.results194, go_sem, k0, k1, k2, k3, k4]) rfl ?_
          exact ⟨0, 0, 0, 0, 0, _, by rw [HE.out], hrs, hkf, fun h0 => absurd h0 HE0.out⟩
    · obtain ⟨x0, x1, x2, x3, x4, k', hs, hq⟩ := hR'
      have r0 := hs.row.cell 0
      have r1 := hs.row.cell 1
      have r2 := hs.row.cell 2
      have r3 := hs.row.cell 3
      have r4 := hs.row.cell 4
      have g0 := hs.out.cell 0
      have g1 := hs.out.cell 1
      have g2 := hs.out.cell 2
      have g3 := hs.out.cell 3
      have g4 := hs.out.cell 4
      have f0 := hs.out.free 0
      have f1 := hs.out.free 1
      have f2 := hs.out.free 2
      have f3 := hs.out.free 3
      have f4 := hs.out.free 4
      have HSt := Lib.hid hs
      have HQ := Lib.hid hq
      clear hs hq
      go_wp2
      obtain ⟨hl, hrs, hkf⟩ := HSt.out.fin5 HF4.out (by omega) Hc.out.2 Hbase.out (.int .u32 (x0 : Int)) (.int .u32 (x1 : Int)) (.int .u32 (x2 : Int)) (.int .u32 (x3 : Int)) (.int .u32 (x4 : Int))
      have k0 := hl.cell 0
      have k1 := hl.cell 1
      have k2 := hl.cell 2
      have k3 := hl.cell 3
      have k4 := hl.cell 4
      refine bodyPost_ret (v := .tuple #[nsV x0 x1 x2 x3 x4, .int .i64 0]) (by simp [results, Tryz.results194, go_sem, k0, k1, k2, k3, k4]) rfl ?_
      have hq := HQ.out
      exact ⟨x0, x1, x2, x3, x4, k', by rw [hq.1]; rfl, hrs, hkf, fun _ => ⟨(hq.2 rfl).1.symm, by rw [(hq.2 rfl).2]; rfl⟩⟩
end Go.Proofs.YtodedbokeodmkaaGreat
