/-
  The document's own packer of names in memory: the walks of its New, known. Conditions: as each theorem names them.
-/
import Derived.Test.YtlpgoeigcccmhaaUpRm
import Derived.Deep.LoopGhost
namespace Go.Proofs.Ytlpgoeigcccmhaa
open Go.RowKit
set_option linter.unusedVariables false

abbrev rp_ (g : Nat) : Value := .pointer (some ⟨g, 0, none⟩)
/-- A row of marks that the call owns. -/
def OwnM (w : World) (base : Nat) (v : Value) (ms : List (ByteArray × Nat)) : Prop := w.ownsRow base 89 2 v ms.length (cellsM ms)
theorem OwnM.nil (w : World) (base : Nat) : OwnM w base (.slice none 0 0) [] := World.ownsRow_nil w base _ 2
theorem OwnM.same {w w' : World} {base : Nat} {v : Value} {l : List (ByteArray × Nat)} (h : OwnM w base v l) (hs : ∀ k, v.ownBlock = some k → w'.heap[k]? = w.heap[k]?) : OwnM w' base v l := by
  refine ⟨h.1, h.2.imp id fun ⟨g, cap, cur, h1, h2, h3, h4⟩ => ⟨g, cap, cur, h1, h2, ?_, h4⟩⟩
  rw [hs g (by rw [h1]; rfl)]
  exact h3
theorem OwnM.block {w : World} {base : Nat} {v : Value} {l : List (ByteArray × Nat)} (h : OwnM w base v l) {k : Nat} (hk : v.ownBlock = some k) : base ≤ k ∧ k < w.heap.size ∧ ∃ cur, w.heap[k]? = some (.cells cur 89 (0, 0)) := by
  rcases h.2 with ⟨rfl, _⟩ | ⟨g, cap, cur, rfl, hb, hg, _⟩
  · cases hk
  · obtain rfl : g = k := by simpa [Value.ownBlock] using hk
    refine ⟨hb, ?_, cur, hg⟩
    rcases Nat.lt_or_ge g w.heap.size with hlt | hge
    · exact hlt
    · rw [Array.getElem?_eq_none hge] at hg; cases hg
theorem OwnM.shape {w : World} {base : Nat} {v : Value} {l : List (ByteArray × Nat)} (h : OwnM w base v l) : ∃ A cap, v = .slice A l.length cap ∧ l.length ≤ cap ∧ cap ≤ maxLen ∧ (l ≠ [] → ∃ g, A = some ⟨g, 0, none⟩) := by
  rcases h.2 with ⟨rfl, hn⟩ | ⟨g, cap, cur, rfl, hb, hg, hnc, hcm, _⟩
  · obtain rfl := List.eq_nil_of_length_eq_zero hn
    exact ⟨none, 0, rfl, Nat.le_refl _, Nat.zero_le _, fun h => absurd rfl h⟩
  · exact ⟨_, cap, rfl, hnc, hcm, fun _ => ⟨g, rfl⟩⟩
theorem OwnM.at {w : World} {base g n cap : Nat} {l : List (ByteArray × Nat)} (h : OwnM w base (.slice (some ⟨g, 0, none⟩) n cap) l) {k : Nat} {m : ByteArray × Nat} (hk : l[k]? = some m) : w.cell? ⟨g, k * 2, none⟩ = some (.string m.1) ∧ w.cell? ⟨g, k * 2 + 1, none⟩ = some (.int .i64 m.2) := by
  obtain ⟨h1, h2⟩ := cellsM_at l k m hk
  have e : ∀ j, (⟨g, 0, none⟩ : Addr).add j = ⟨g, j, none⟩ := fun j => by unfold Addr.add; split <;> simp_all
  have c1 := World.ownsRow.cells h (g := g) rfl _ _ h1
  have c2 := World.ownsRow.cells h (g := g) rfl _ _ h2
  rw [e] at c1 c2
  exact ⟨c1, c2⟩

/-- The document's packer at block gp, its writer at gw; its blocks are among F. -/
structure RPx (w : World) (base : Nat) (F : Nat → Prop) (gp gw : Nat) (vm : Value) (M : Nat) (S : ByteArray) (ms : List (ByteArray × Nat)) : Prop where
  lies : Lies w gp 56 #[.pointer (some ⟨gw, 0, none⟩), vm, .slice none 0 0]
  wr : WF w gw M S 0
  mrk : OwnM w base vm ms
  bp : base ≤ gp
  bw : base ≤ gw
  Fp : F gp
  Fw : F gw
  Fm : ∀ k, vm.ownBlock = some k → F k
  Fl : ∀ k, F k → base ≤ k ∧ k < w.heap.size
theorem RPx.base_le {w : World} {base : Nat} {F : Nat → Prop} {gp gw : Nat} {vm : Value} {M : Nat} {S : ByteArray} {ms : List (ByteArray × Nat)} (h : RPx w base F gp gw vm M S ms) : base ≤ w.heap.size := Nat.le_trans h.bp (Nat.le_of_lt h.lies.lt)

section
variable {w w' : World} {base : Nat} {F : Nat → Prop} {gp gw : Nat} {vm : Value} {M : Nat} {S : ByteArray} {ms : List (ByteArray × Nat)}
theorem RPx.ne (h : RPx w base F gp gw vm M S ms) : gp ≠ gw := h.lies.ne h.wr (by decide)
theorem RPx.ne_m (h : RPx w base F gp gw vm M S ms) {k : Nat} (hk : vm.ownBlock = some k) : k ≠ gp ∧ k ≠ gw := by
  obtain ⟨_, _, cur, hc⟩ := h.mrk.block hk
  exact ⟨Lies.ne hc h.lies (by decide), Lies.ne hc h.wr (by decide)⟩
/-- The writer has been written. -/
theorem RPx.write (h : RPx w base F gp gw vm M S ms) {S' : ByteArray} (hw : WF w' gw M S' 0) (hg : w.grownBy w' (some gw)) : RPx w' base F gp gw vm M S' ms ∧ Kf base F F w w' := by
  have hsz := hg.size
  refine ⟨⟨h.lies.grown hg (fun e => h.ne (by injection e)), hw, h.mrk.same fun k hk => hg.block k (h.mrk.block hk).2.1 (fun e => (h.ne_m hk).2 (by injection e)), h.bp, h.bw, h.Fp, h.Fw, h.Fm, fun k hk => ⟨(h.Fl k hk).1, Nat.lt_of_lt_of_le (h.Fl k hk).2 hsz⟩⟩, (Below.refl base w).grown hg h.base_le (fun k hk => by injection hk with hk; exact hk ▸ h.bw), fun k hkl hkF => hg.block k hkl (fun e => by injection e with e; exact hkF (e ▸ h.Fw)), fun _ hk => .inl hk⟩
/-- Memory grows, nothing that lay is turned. -/
theorem RPx.next (h : RPx w base F gp gw vm M S ms) (hb : Below w.heap.size w w') : RPx w' base F gp gw vm M S ms :=
  ⟨h.lies.next hb, h.wr.next hb, h.mrk.same fun k hk => hb.block k (h.mrk.block hk).2.1, h.bp, h.bw, h.Fp, h.Fw, h.Fm, fun k hk => ⟨(h.Fl k hk).1, Nat.lt_of_lt_of_le (h.Fl k hk).2 hb.size⟩⟩
theorem RPx.kept (h : RPx w base F gp gw vm M S ms) (hs : w.heap.size ≤ w'.heap.size) (hb : ∀ k, F k → w'.heap[k]? = w.heap[k]?) : RPx w' base F gp gw vm M S ms :=
  ⟨(hb gp h.Fp).trans h.lies, (hb gw h.Fw).trans h.wr, h.mrk.same fun k hk => hb k (h.Fm k hk), h.bp, h.bw, h.Fp, h.Fw, h.Fm, fun k hk => ⟨(h.Fl k hk).1, Nat.lt_of_lt_of_le (h.Fl k hk).2 hs⟩⟩
theorem RPx.drewN (h : RPx w base F gp gw vm M S ms) (m : Nat) : RPx (w.drewN m) base F gp gw vm M S ms := h.kept (Nat.le_refl _) fun _ _ => rfl
/-- A mark more has been stored. -/
theorem RPx.marked (h : RPx w base F gp gw vm M S ms) {w1 : World} {v' : Value} {ms' : List (ByteArray × Nat)} (ho : OwnM w1 base v' ms') (hg : w.grownBy w1 vm.ownBlock) (hv : v'.ownBlock = vm.ownBlock ∨ ∀ k, v'.ownBlock = some k → w.heap.size ≤ k) :
    RPx (w1.setCell ⟨gp, 1, none⟩ v') base (Gw F w (w1.setCell ⟨gp, 1, none⟩ v')) gp gw v' M S ms' ∧ Kf base F (Gw F w (w1.setCell ⟨gp, 1, none⟩ v')) w (w1.setCell ⟨gp, 1, none⟩ v') := by
  have hsz := hg.size
  have hsz' : (w1.setCell ⟨gp, 1, none⟩ v').heap.size = w1.heap.size := by simp [World.setCell]
  have hnp : some gp ≠ vm.ownBlock := fun e => (h.ne_m e.symm).1 rfl
  have hnw : some gw ≠ vm.ownBlock := fun e => (h.ne_m e.symm).2 rfl
  have hL1 := h.lies.grown hg hnp
  have o1 : ∀ k, k ≠ gp → (w1.setCell ⟨gp, 1, none⟩ v').heap[k]? = w1.heap[k]? := fun k hk => heap_setCell_other w1 ⟨gp, 1, none⟩ k v' hk
  have ho' : OwnM (w1.setCell ⟨gp, 1, none⟩ v') base v' ms' := ho.same fun k hk => o1 k fun e => by
    obtain ⟨_, _, cur, hc⟩ := ho.block hk
    subst e
    exact Lies.ne hc hL1 (by decide) rfl
  refine ⟨⟨hL1.set 1 v', (o1 gw (Ne.symm h.ne)).trans (h.wr.grown hg hnw), ho', h.bp, h.bw, .inl h.Fp, .inl h.Fw, fun k hk => ?_, fun k hkF => ?_⟩, ?_, fun k hkl hkF => ?_, fun k hkF => hkF.imp id (·.1)⟩
  · rcases hv with e | e
    · exact .inl (h.Fm k (e ▸ hk))
    · exact .inr ⟨e k hk, (ho'.block hk).2.1⟩
  · rcases hkF with h' | h'
    · exact ⟨(h.Fl k h').1, by rw [hsz']; exact Nat.lt_of_lt_of_le (h.Fl k h').2 hsz⟩
    · exact ⟨Nat.le_trans h.base_le h'.1, h'.2⟩
  · exact ((Below.refl base w).grown hg h.base_le (fun k hk => (h.mrk.block hk).1)).setCell h.bp _
  · exact (o1 k (fun e => hkF (e ▸ h.Fp))).trans (hg.block k hkl (fun e => hkF (h.Fm k e.symm)))
end

/-- The relation of known's loop. -/
def KnRel (ms : List (ByteArray × Nat)) (q : ByteArray) (i : Value) : Prop := ∃ k : Nat, i = .int .i64 k ∧ k ≤ ms.length ∧ knownM ms q = knownM (ms.drop k) q
/-- What known hands back. -/
def knV (r : Option Nat) : Value := match r with | some a => .int .i64 a | none => .int .i64 (-1)
theorem knownM_cons (m : ByteArray × Nat) (ms : List (ByteArray × Nat)) (q : ByteArray) : knownM (m :: ms) q = if m.1 = q then some m.2 else knownM ms q := by
  unfold knownM
  rw [List.find?_cons]
  by_cases h : m.1 = q <;> simp [h]
set_option maxHeartbeats 1000000 in
theorem known_any {w : World} {base : Nat} {F : Nat → Prop} {gp gw : Nat} {vm : Value} {M : Nat} {S : ByteArray} {ms : List (ByteArray × Nat)} (h : RPx w base F gp gw vm M S ms) (hm : ∀ m ∈ ms, m.2 < 16384) (q : ByteArray) :
    Calls Try.prog 52 #[rp_ gp, .string q] w fun e w' => e = .returned (knV (knownM ms q)) ∧ w = w' := by
  obtain ⟨A, cap, rfl, hcap, hmx, hA⟩ := h.mrk.shape
  have HM := Lib.hid h.mrk
  have HA := Lib.hid hA
  have HB := Lib.hid hm
  have hc1 : w.cell? ⟨gp, 1, none⟩ = some (.slice A ms.length cap) := h.lies.cell 1
  unfold maxLen at hmx
  obtain ⟨r, hr⟩ : ∃ r, knownM ms q = r := ⟨_, rfl⟩
  rw [hr]
  have HR := Lib.hid hr
  clear h hA hm hr
  go_enter Try.func52, Try.ntmps52
  go_wp2
  go_loop [5] (fun i => KnRel ms q i) (fun i => ms.length - (intOf i).toNat)
  case atStart => exact ⟨0, rfl, Nat.zero_le _, by rw [List.drop_zero]⟩
  case round =>
    obtain ⟨k, rfl, hk, he⟩ := hrel
    rcases Nat.lt_or_ge k ms.length with hlt | hge
    · obtain ⟨m, hm⟩ : ∃ m, ms[k]? = some m := ⟨_, List.getElem?_eq_getElem hlt⟩
      have hd : ms.drop k = m :: ms.drop (k + 1) := by
        obtain ⟨_, rfl⟩ := List.getElem?_eq_some_iff.1 hm
        exact List.drop_eq_getElem_cons hlt
      obtain ⟨g, rfl⟩ := HA.out (fun e => by rw [e] at hlt; simp at hlt)
      obtain ⟨k1, k2⟩ := HM.out.at hm
      have hlm := HB.out m (List.mem_of_getElem? hm)
      rw [hd, knownM_cons] at he
      obtain ⟨x, a⟩ := m
      simp only at k1 k2 hlm he
      have hd16 : decide ((a : Int) < 16384) = true := by simp; omega
      by_cases hq : x = q
      · subst hq
        rw [if_pos rfl, HR.out] at he
        subst he
        clear hd hm
        go_wp2
        go_ret
        exact ⟨rfl, rfl⟩
      · rw [if_neg hq] at he
        have hne : ¬ x.toList = q.toList := fun e => hq (bs_inj (by rw [← bs_toList, ← bs_toList, e]))
        have hne2 : (x.toList == q.toList) = false := beq_eq_false_iff_ne.2 hne
        have HE := Lib.hid he
        clear hd hm hq he
        go_wp2
        go_round
        case rel => exact ⟨k + 1, by go_num, hlt, HE.out⟩
        case measure => simp [intOf]; omega
    · obtain rfl : k = ms.length := by omega
      rw [List.drop_length, HR.out] at he
      have he' : r = none := he
      subst he'
      clear he
      go_wp2
      go_ret
      exact ⟨rfl, rfl⟩
/-- What New makes. -/
def NewRP (w : World) (M : Nat) (e : Ending) (w' : World) : Prop := ∃ gp gw F, e = .returned (rp_ gp) ∧ RPx w' w.heap.size F gp gw (.slice none 0 0) M ⟨#[]⟩ [] ∧ Below w.heap.size w w'
set_option maxHeartbeats 1000000 in
theorem rpNew_any (w : World) : Calls Try.prog 28 #[.int .i64 65535] w (NewRP w 65535) := by
  have HN := Lib.hid fun wx => fNewWriter_any 65535 wx (by decide)
  go_enter Try.func28, Try.ntmps28
  go_wp2_with (go_at_call 51; (with_reducible refine (HN.out _).mono ?_); rintro e w1 ⟨rfl, hw1, hb1⟩; have HW := Lib.hid hw1; have HB := Lib.hid hb1; clear hw1 hb1)
  go_ret
  have h1 := HB.out.size
  have h2 := HW.out.lt
  refine ⟨w1.heap.size, w.heap.size, fun k => k = w.heap.size ∨ k = w1.heap.size, rfl, ⟨Lies.new _ _ _, HW.out.alloc _, OwnM.nil _ _, h1, Nat.le_refl _, .inr rfl, .inl rfl, (fun k hk => by cases hk), fun k hk => ?_⟩, HB.out.alloc h1 _⟩
  simp
  omega
end Go.Proofs.Ytlpgoeigcccmhaa
