/-
  A host is dropped: the walks of drop, Drop. Conditions: the two maps are two, the host is no longer than Go's own limit.
-/
import Derived.Test.YthlabpbplikjbaaDoorZk36
namespace Go.Proofs.YthlabpbplikjbaaDoor
open Go.RowKit Go.Maps Go.Shelf
set_option linter.unusedVariables false

theorem drop_perm {p : PoolD} {H : List Hd} (h : p.Wf H) {k : List UInt8} {x : Hd} (hf : findH H k = some x) : H.Perm (x :: dropH H k) := by
  obtain ⟨hx, hk⟩ := findH_some hf
  have key : ∀ l : List Hd, l.Pairwise (fun x y => keyH x.1 ≠ keyH y.1) → x ∈ l → l.Perm (x :: l.filter fun y => decide (keyH y.1 ≠ k)) := by
    intro l
    induction l with
    | nil => intro _ h; cases h
    | cons y l ih =>
      intro hp hm
      obtain ⟨h1, h2⟩ := List.pairwise_cons.1 hp
      by_cases hy : keyH y.1 = k
      · have e : y = x := by
          rcases List.mem_cons.1 hm with e | hm'
          · exact e.symm
          · exact absurd (hy.trans hk.symm) (h1 x hm')
        subst e
        rw [List.filter_cons_of_neg (by simpa using hy), List.filter_eq_self.2 (fun z hz => by
          have := h1 z hz
          rw [hk] at this
          simpa using this.symm)]
      · have hm' : x ∈ l := (List.mem_cons.1 hm).resolve_left (fun e => hy (by rw [← e]; exact hk))
        rw [List.filter_cons_of_pos (by simpa using hy)]
        exact ((ih h2 hm').cons y).trans (List.Perm.swap x y _)
  exact key H h.keys hx
theorem PoolAt.less {w w' : World} {B : PB} {p : PoolD} {H : List Hd} {k : List UInt8} (h : PoolAt w B p H)
    (hA : MapE Tryd.prog 39 w' B.a (entA (dropH H k))) (hH : MapE Tryd.prog 29 w' B.h (entH (dropH H k))) (hq : Kq B w w') : PoolAt w' B p (dropH H k) :=
  ⟨hq.lies h.obj h.ga h.gh, hq.lies h.row h.sa h.sh, hA, hH, h.ok, h.wf.filter _⟩
/-- What drop leaves. -/
def DropOut (B : PB) (p : PoolD) (w : World) (H' : List Hd) (e : Ending) (w' : World) : Prop := e = .returned (.tuple #[]) ∧ PoolAt w' B p H' ∧ Kq B w w'
set_option maxRecDepth 100000 in
set_option maxHeartbeats 4000000 in
theorem pdrop_any {w : World} {B : PB} {p : PoolD} {H : List Hd} (h : PoolAt w B p H) {k : List UInt8} {x : Hd} (hf : findH H k = some x) :
    Calls Tryd.prog 34 #[.pointer (some ⟨B.g, 0, none⟩), stv k] w (DropOut B p w (dropH H k)) := by
  obtain ⟨hx, hk⟩ := findH_some hf
  have hkm : k.length ≤ maxLen := by rw [← hk]; exact key_max x.1
  have hah : B.a ≠ B.h := h.ah (fun e => by rw [e] at hx; cases hx)
  have hpm := drop_perm h.wf hf
  have hfa := h.wf.fitx h.ok hx
  obtain ⟨F, hF⟩ : ∃ F : ByteArray, stv k = .string F := ⟨_, rfl⟩
  obtain ⟨x1, ⟨s, ah, al⟩⟩ := x
  have c6 : w.cell? ⟨B.g, 6, none⟩ = some (.map (some B.a)) := h.obj.cell 6
  have c7 : w.cell? ⟨B.g, 7, none⟩ = some (.map (some B.h)) := h.obj.cell 7
  have hlk := h.drew.name_yes false hf
  have hP1 : (entH H).Perm ((av (s, ah, al), hdv (x1, (s, ah, al))) :: entH (dropH H k)) := hpm.map _
  have hP2 : (entA H).Perm ((stv k, av (s, ah, al)) :: entA (dropH H k)) := by
    have := hpm.map (fun y : Hd => (stv (keyH y.1), av y.2))
    rw [List.map_cons, hk] at this
    exact this
  obtain ⟨w1, hr1, hM1, hg1, hs1⟩ := h.drew.hld.drop akey Tryd.underlying71 (ty := 0) (keyAv hfa) hP1
  have hA1 := h.drew.adr.grown hg1 (fun e => hah (by injection e))
  obtain ⟨w2, hr2, hM2, hg2, hs2⟩ := hA1.drop skey Tryd.underlying70 (ty := 0) (keyS hkm) hP2
  have ho1 : Lies w1 B.g 73 (poolC p B) := h.obj.drew.grown hg1 (fun e => h.gh (by injection e))
  have d6 : w1.cell? ⟨B.g, 6, none⟩ = some (.map (some B.a)) := ho1.cell 6
  have hq : Kq B w w2 := (Kq.of_h (w := w.drew) hg1 |>.from_drew).trans (Kq.of_a hg2)
  have HX := Lib.hid (And.intro (h.less hM2 (hM1.grown hg2 (fun e => hah (by injection e with e; exact e.symm))) hq) hq)
  rw [hF] at hlk hr2 ⊢
  have hav : av (s, ah, al) = .agg #[.bool s, .int .u64 (ah : Int), .int .u64 (al : Int)] := rfl
  simp only [hav, Bool.false_eq_true, if_false] at hlk hr1
  clear h hx hk hkm hah hpm hfa hP1 hP2 hM1 hA1 hM2 hg1 hg2 hs1 hs2 ho1 hq hav hf hF
  go_enter Tryd.func34, Tryd.ntmps34
  go_wp2
  go_region
  all_goals
    go_wp2
    go_end0
    exact ⟨rfl, HX.out.1, HX.out.2⟩
/-- Who is held behind Drop; the error. -/
def dropE (H : List Hd) (n : ByteArray) : List Hd × Nat := if keyH n = [] then (H, 2) else match findH H (keyH n) with | none => (H, 5) | some _ => (dropH H (keyH n), 0)
def DropOut2 (B : PB) (p : PoolD) (w : World) (R : List Hd × Nat) (e : Ending) (w' : World) : Prop := e = .returned (.int .i64 (R.2 : Int)) ∧ PoolAt w' B p R.1 ∧ Kq B w w'
set_option maxRecDepth 100000 in
set_option maxHeartbeats 4000000 in
theorem pDrop_any {w : World} {B : PB} {p : PoolD} {H : List Hd} (h : PoolAt w B p H) {n : ByteArray} (hn : n.size ≤ maxLen) :
    Calls Tryd.prog 14 #[.pointer (some ⟨B.g, 0, none⟩), .string n] w (DropOut2 B p w (dropE H n)) := by
  obtain ⟨k, hk⟩ : ∃ k, keyH n = k := ⟨_, rfl⟩
  have gf := Lib.hid (gVf hn hk)
  have HM := Lib.hid (pmade_yes h)
  have HP := Lib.hid h
  have hkm : k.length ≤ maxLen := by rw [← hk]; exact key_max n
  obtain ⟨F, hF⟩ : ∃ F : ByteArray, stv k = .string F := ⟨_, rfl⟩
  by_cases h0 : k = []
  · have e0 : eK k = 2 := if_pos h0
    have eR : dropE H n = (H, 2) := if_pos (hk.trans h0)
    rw [e0, hF] at gf
    rw [eR]
    clear h hn hk hkm hF h0 e0 eR
    go_enter Tryd.func14, Tryd.ntmps14
    go_wp2_with (first | (go_at_call 25; refine HM.out.mono ?_; rintro e w1 ⟨rfl, rfl⟩) | (go_at_call 31; refine (gf.out.go _).mono ?_; rintro e w2 ⟨rfl, hb⟩; have HB := Lib.hid hb; clear hb))
    go_ret
    exact ⟨rfl, HP.out.next HB.out, Kq.of_below HB.out⟩
  · have e0 : eK k = 0 := if_neg h0
    rw [e0] at gf
    cases hf : findH H k with
    | none =>
      have eR : dropE H n = (H, 5) := by unfold dropE; rw [hk, if_neg h0, hf]
      rw [eR]
      have HL : Hid (∀ wx, Below w.heap.size w wx → wx.cell? ⟨B.g, 6, none⟩ = some (.map (some B.a)) ∧ (Instr.lookup 70 (.map (some B.a)) (.string F) true).run Tryd.prog wx = .ok (.tuple #[.agg #[.bool false, .int .u64 0, .int .u64 0], .bool false]) wx) := Lib.hid fun wx hb => ⟨(h.next hb).obj.cell 6, by
        have := (h.next hb).name_no hkm hf
        rw [hF] at this
        exact this⟩
      rw [hF] at gf
      clear h hn hk hkm hF h0 e0 eR hf
      go_enter Tryd.func14, Tryd.ntmps14
      go_wp2_with (first | (go_at_call 25; refine HM.out.mono ?_; rintro e w1 ⟨rfl, rfl⟩) | (go_at_call 31; refine (gf.out.go _).mono ?_; rintro e w2 ⟨rfl, hb⟩; obtain ⟨c6, l6⟩ := HL.out _ hb; have HB := Lib.hid hb; clear hb))
      go_ret
      exact ⟨rfl, (HP.out.next HB.out).alloc _, Kq.of_below (HB.out.alloc HB.out.size _)⟩
    | some x =>
      have eR : dropE H n = (dropH H k, 0) := by unfold dropE; rw [hk, if_neg h0, hf]
      rw [eR]
      obtain ⟨x1, ⟨s, ah, al⟩⟩ := x
      have HL : Hid (∀ wx, Below w.heap.size w wx → wx.cell? ⟨B.g, 6, none⟩ = some (.map (some B.a)) ∧ (Instr.lookup 70 (.map (some B.a)) (.string F) true).run Tryd.prog wx = .ok (.tuple #[.agg #[.bool s, .int .u64 (ah : Int), .int .u64 (al : Int)], .bool true]) wx) := Lib.hid fun wx hb => ⟨(h.next hb).obj.cell 6, by
        have := (h.next hb).name_yes true hf
        rw [hF] at this
        exact this⟩
      have HD : Hid (∀ wx, Below w.heap.size w wx → Calls Tryd.prog 34 #[.pointer (some ⟨B.g, 0, none⟩), .string F] wx (DropOut B p wx (dropH H k))) := Lib.hid fun wx hb => by
        have := pdrop_any (h.next hb) hf
        rw [hF] at this
        exact this
      rw [hF] at gf
      clear h hn hk hkm hF h0 e0 eR hf
      go_enter Tryd.func14, Tryd.ntmps14
      go_wp2_with (first | (go_at_call 25; refine HM.out.mono ?_; rintro e w1 ⟨rfl, rfl⟩) | (go_at_call 31; refine (gf.out.go _).mono ?_; rintro e w2 ⟨rfl, hb⟩; obtain ⟨c6, l6⟩ := HL.out _ hb; have HB := Lib.hid hb; clear hb) | (go_at_call 34; refine (HD.out _ (HB.out.alloc HB.out.size _)).mono ?_; rintro e w3 ⟨rfl, hp3, hk3⟩; have HX := Lib.hid (And.intro hp3 ((Kq.of_below (HB.out.alloc HB.out.size _)).trans hk3)); clear hp3 hk3))
      go_ret
      exact ⟨rfl, HX.out.1, HX.out.2⟩
end Go.Proofs.YthlabpbplikjbaaDoor
