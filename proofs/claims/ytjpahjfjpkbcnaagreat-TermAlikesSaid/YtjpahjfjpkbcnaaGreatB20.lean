/- Contracts of the program's functions. -/
import Derived.Test.YtjpahjfjpkbcnaaGreatB10
import Derived.Test.YtjpahjfjpkbcnaaGreatB16
import Derived.Test.YtjpahjfjpkbcnaaGreatB17
import Derived.Test.YtjpahjfjpkbcnaaGreatB19
import Derived.Test.YtjpahjfjpkbcnaaGreatB09

namespace Go.Proofs.YtjpahjfjpkbcnaaGreat
open Go.Proofs Go.RowKit
def markB (n : Nat) : ByteArray := ⟨#[35]⟩ ++ lettersB n
theorem mark_any (n : Nat) (w : World) (h : n < 2 ^ 40) : Calls Tryz.prog 151 #[.int .i64 n] w fun e w' => e = .returned (.string (markB n)) ∧ Below w.heap.size w w' := by
 have HC := lh (letters_any n w h)
 go_enter Tryz.func151, Tryz.ntmps151
 go_wp2_with fail
 refine HC.o.mono ?_
 rintro e w1 ⟨rfl, hb⟩
 have hsz : ¬ 9223372036854775807 < 1 + (lettersB n).size := by have := lettersB_size n; omega
 go_wp2
 go_ret
 exact ⟨rfl, hb⟩
def unmL (s : ByteArray) : List ByteArray → Nat → ByteArray
 | [], _ => s
 | t :: ts, i => if (s.toList == (markB i).toList) = true then t else unmL s ts (i + 1)
def unmB (tk : List ByteArray) (s : ByteArray) : ByteArray := if s.toList.head? = some 35 then unmL s tk 0 else s
theorem unmL_drop (s : ByteArray) (tk : List ByteArray) (k : Nat) (h : k < tk.length) : unmL s (tk.drop k) k = if (s.toList == (markB k).toList) = true then tk[k] else unmL s (tk.drop (k + 1)) (k + 1) := by
 rw [List.drop_eq_getElem_cons h]
 rfl
theorem head_get (s : ByteArray) (h : 0 < s.size) : s.toList.head? = some s[0] := by
 have h1 := toList_get s 0 h
 rw [List.head?_eq_getElem?, List.getElem?_eq_getElem (by rw [toList_len]; exact h), h1]
set_option maxHeartbeats 2000000 in
set_option maxRecDepth 100000 in
theorem unm_any (s : ByteArray) (tk : List ByteArray) (v : Value) (w : World) (hv : SsAt w.heap.size w tk v) (hl : tk.length ≤ 1000000000) :
  Calls Tryz.prog 152 #[.string s, v] w fun e w' => e = .returned (.string (unmB tk s)) ∧ Below w.heap.size w w' := by
 obtain ⟨a, cap, rfl, hcap, hlc, hka⟩ := SlV.split hv
 have HKA := lh hka
 clear hv hka
 unfold maxLen at hcap
 by_cases hh : s.toList.head? = some 35
 ·have h0 : 0 < s.size := by
   rw [← toList_len]
   cases hx : s.toList with
   | nil => rw [hx] at hh; cases hh
   | cons c cs => simp
  have h35 : (s[0].toNat : Int) = 35 := by
   rw [head_get s h0] at hh
   have := Option.some.inj hh
   rw [this]; rfl
  have hu : unmB tk s = unmL s tk 0 := if_pos hh
  have HU := lh hu
  clear hh hu
  go_enter Tryz.func152, Tryz.ntmps152
  go_wp2
  go_loopw [5] (fun i wr => ∃ k : Nat, k ≤ tk.length ∧ i = .int .i64 k ∧ Below w.heap.size w wr ∧ Hid (unmB tk s = unmL s (tk.drop k) k)) (fun i _ => tk.length - (intOf i).toNat)
  case atStart => exact ⟨0, Nat.zero_le _, rfl, Below.refl _ _, HU.o⟩
  case round =>
   obtain ⟨k, hk, rfl, hb, HP⟩ := hrel
   have HB := lh hb
   by_cases hlt : k < tk.length
   ·have hlt' : (k : Int) < (tk.length : Int) := by omega
    obtain ⟨b, o, rfl, hbn, hss⟩ := HKA.o (by omega)
    obtain ⟨hg, hgs⟩ := StrsAt.get tk b o hss k hlt
    have HC := lh (mark_any k wr (by omega))
    have HD := lh (unmL_drop s tk k hlt)
    clear hss
    go_wp2_with fail
    refine HC.o.mono ?_
    rintro e w1 ⟨rfl, hb1⟩
    have HB1 := lh (HB.o.trans (hb1.mono HB.o.size))
    have hg1 := (HB1.o.cell (p := ⟨b, o + k, none⟩) hbn).trans hg
    clear hb hb1 hg HC
    by_cases he : (s.toList == (markB k).toList) = true
    ·have HX := lh (show unmB tk s = tk[k] by rw [HP.o, HD.o, if_pos he])
     go_wp2
     go_ret
     rw [HX.o]
     exact ⟨rfl, HB1.o⟩
    ·have he' : (s.toList == (markB k).toList) = false := by simpa using he
     have HX := lh (show unmB tk s = unmL s (tk.drop (k + 1)) (k + 1) by rw [HP.o, HD.o, if_neg he])
     clear he
     go_wp2
     go_roundw
     case rel => exact ⟨k + 1, by omega, by go_num, HB1.o, HX.o⟩
     case measure => simp [intOf]; omega
   ·have hlt' : ¬ ((k : Int) < (tk.length : Int)) := by omega
    have HX := lh (show unmB tk s = s by rw [HP.o, List.drop_eq_nil_of_le (by omega)]; rfl)
    clear hb
    go_wp2
    go_ret
    rw [HX.o]
    exact ⟨rfl, HB.o⟩
 ·have HU := lh (show unmB tk s = s from if_neg hh)
  by_cases h0 : 0 < s.size
  ·have h35 : ¬ (s[0].toNat : Int) = 35 := by
    intro h
    rw [head_get s h0] at hh
    exact hh (congrArg some (UInt8.toNat_inj.1 (by show s[0].toNat = 35; omega)))
   go_enter Tryz.func152, Tryz.ntmps152
   go_wp2
   go_loopw [5] (fun i wr => i = .int .i64 0 ∧ wr = w) (fun _ _ => 0)
   case atStart => exact ⟨rfl, rfl⟩
   case round =>
    obtain ⟨rfl, rfl⟩ := hrel
    by_cases hlt : 0 < tk.length
    ·go_wp2
     go_ret
     rw [HU.o]
     exact ⟨rfl, Below.refl _ _⟩
    ·go_wp2
     go_ret
     rw [HU.o]
     exact ⟨rfl, Below.refl _ _⟩
  ·go_enter Tryz.func152, Tryz.ntmps152
   go_wp2
   go_loopw [5] (fun i wr => i = .int .i64 0 ∧ wr = w) (fun _ _ => 0)
   case atStart => exact ⟨rfl, rfl⟩
   case round =>
    obtain ⟨rfl, rfl⟩ := hrel
    by_cases hlt : 0 < tk.length
    ·go_wp2
     go_ret
     rw [HU.o]
     exact ⟨rfl, Below.refl _ _⟩
    ·go_wp2
     go_ret
     rw [HU.o]
     exact ⟨rfl, Below.refl _ _⟩
theorem unmL_size (s : ByteArray) (hs : s.size ≤ maxLen) : ∀ (tk : List ByteArray) (i : Nat), (∀ t ∈ tk, t.size ≤ maxLen) → (unmL s tk i).size ≤ maxLen
 | [], _, _ => hs
 | t :: ts, i, h => by
  unfold unmL
  split
  ·exact h t List.mem_cons_self
  ·exact unmL_size s hs ts (i + 1) fun x hx => h x (List.mem_cons_of_mem _ hx)
theorem unmB_size {s : ByteArray} {tk : List ByteArray} (hs : s.size ≤ maxLen) (h : ∀ t ∈ tk, t.size ≤ maxLen) : (unmB tk s).size ≤ maxLen := by
 unfold unmB
 split
 ·exact unmL_size s hs tk 0 h
 ·exact hs
mutual
def nmP (tk : List ByteArray) : Pt → Pt
 | .mk f n t ps => .mk f n (unmB tk t) (nmPs tk ps)
def nmPs (tk : List ByteArray) : List Pt → List Pt
 | [] => []
 | p :: ps => nmP tk p :: nmPs tk ps
end
theorem nmPs_map (tk : List ByteArray) : ∀ ps : List Pt, nmPs tk ps = ps.map (nmP tk)
 | [] => by unfold nmPs; rfl
 | p :: ps => by unfold nmPs; rw [nmPs_map tk ps]; rfl
mutual
def nmM (tk : List ByteArray) : Tm → Tm
 | .mk op n t ks ps => .mk op n (unmB tk t) (nmMs tk ks) (ps.map (nmP tk))
def nmMs (tk : List ByteArray) : List Tm → List Tm
 | [] => []
 | k :: ks => nmM tk k :: nmMs tk ks
end
theorem nmMs_map (tk : List ByteArray) : ∀ ks : List Tm, nmMs tk ks = ks.map (nmM tk)
 | [] => by unfold nmMs; rfl
 | k :: ks => by unfold nmMs; rw [nmMs_map tk ks]; rfl
theorem PtsX.get {B : Nat → Prop} {w : World} : ∀ (ps : List Pt) (b o : Nat), PtsX B w ps b o → ∀ (i : Nat) (h : i < ps.length),
  ∃ c0 c1 c2 c3, w.cell? ⟨b, o + i * 4, none⟩ = some c0 ∧ w.cell? ⟨b, o + i * 4 + 1, none⟩ = some c1 ∧ w.cell? ⟨b, o + i * 4 + 2, none⟩ = some c2 ∧ w.cell? ⟨b, o + i * 4 + 3, none⟩ = some c3 ∧ PtX B w ps[i] (.agg #[c0, c1, c2, c3])
 | p :: ps, b, o, h, 0, _ => by unfold PtsX at h; simpa using h.1
 | p :: ps, b, o, h, i + 1, hi => by
  unfold PtsX at h
  have := PtsX.get ps b (o + 4) h.2 i (by simpa using hi)
  rw [show o + (i + 1) * 4 = o + 4 + i * 4 by omega]
  simpa using this
abbrev OwnN (W wr : World) (vo : Value) : Nat → Prop := OwnX (fun _ => False) W wr vo
theorem ownN_step {w wr w1 w' : World} {vo v' : Value} {X : Obj} (hB : Below w.heap.size w wr) (hb1 : Below wr.heap.size wr w1) (hown : ∀ k, vo.ownBlock = some k → w.heap.size ≤ k ∧ k < wr.heap.size)
  (hgr : (w1.alloc X).grownBy w' vo.ownBlock) (hat : v'.ownBlock = vo.ownBlock ∨ v'.ownBlock = some (w1.alloc X).heap.size) :
  (∀ b, OwnN w wr vo b → w'.heap[b]? = wr.heap[b]?) ∧ (∀ b, OwnN w wr vo b → OwnN w w' v' b) ∧ (∀ b, wr.heap.size ≤ b → b < w1.heap.size → w'.heap[b]? = w1.heap[b]? ∧ OwnN w w' v' b) ∧ Below w.heap.size w w' := by
 obtain ⟨s1, s2, s3, s4⟩ := ownX_step (B := fun _ => False) (fun b h => h.elim) hB hb1 hown hgr hat
 exact ⟨s1, s2, fun b h => s3 b (.inr h), s4⟩
set_option maxHeartbeats 8000000 in
set_option maxRecDepth 100000 in
theorem namedPat_any (tk : List ByteArray) (hsz : ∀ t ∈ tk, t.size ≤ maxLen) (hl : tk.length ≤ 1000000000) (p : Pt) : ∀ (v tv : Value) (w : World) (B : Nat → Prop), (∀ b, B b → b < w.heap.size) → PtX B w p v → lensP p → (SlIn (fun b => b < w.heap.size) tv tk.length fun b o => StrsAt w tk b o) →
  Calls Tryz.prog 153 #[v, tv] w fun e w' => (∃ v', e = .returned v' ∧ PtX (Fresh w w') w' (nmP tk p) v') ∧ Below w.heap.size w w' := by
 induction hT : SizeOf.sizeOf p using Nat.strongRecOn generalizing p with
 | _ m ih =>
 subst hT
 intro v tv w B hBb hv hlen htv
 obtain ⟨ta, tc, rfl⟩ := htv.split
 obtain ⟨i0, hi, hz0, hz1, hz2⟩ := info_parts Tz.info35
 have HIH := lh ih; clear ih
 cases p with
 | mk form n text parts =>
 unfold PtX at hv
 obtain ⟨kv, rfl, htx, hk⟩ := hv
 obtain ⟨a, cap, rfl, hcap, hlc, hka⟩ := hk.split
 unfold lensP at hlen
 have hl1 := hlen.1
 unfold maxLen at hcap
 have HKA := lh hka; have HLEN := lh hlen.2; have HTV := lh htv
 obtain ⟨W, hW, hB0, hs, hx3, hx6⟩ := two_boxes' w #[.int .i64 form, .int .i64 n, .string text, .slice a parts.length cap] #[.int .i64 0, .int .i64 0, .string ⟨#[]⟩, .slice none 0 0] 35 35
 clear hk hka hlen htv
 have HB0 := lh hB0; have X6 := lh hx6; have X3 := lh hx3
 have htvW : ∀ w', Below w.heap.size w w' → (SlIn (fun b => b < w'.heap.size) (.slice ta tk.length tc) tk.length fun b o => StrsAt w' tk b o) := fun w' hb => HTV.o.mono (fun b h => Nat.lt_of_lt_of_le h hb.size) fun b o h hs => StrsAt.keep hb _ _ _ h hs
 have HTW := lh htvW
 clear htvW
 obtain ⟨y0, y1, y2, y3⟩ := cells4 hx3
 have f3 := free_box hx3
 clear hB0 hx6 hx3
 have HC := lh (unm_any text tk _ W ((HTW.o W HB0.o).to (fun b h => h) fun _ _ h => h) hl)
 have hus : (unmB tk text).size ≤ maxLen := unmB_size htx hsz
 go_enter Tryz.func153, Tryz.ntmps153
 go_upto_region 1 with fail
 rw [← hW]
 clear hW
 go_wp2_with fail
 refine HC.o.mono ?_
 rintro e w1 ⟨rfl, hb1⟩
 have hx3 := bget' hb1 X3.out; have hx6 := bget' hb1 X6.o
 have hs1 := hb1.size
 have hB1 := HB0.o.trans (hb1.mono HB0.o.size)
 clear X3 X6 HB0 HC y0 y1 y2 y3 f3 hb1
 have f3 := free_box hx3
 obtain ⟨y0, y1, y2, y3⟩ := cells4 hx3
 have HB0 := lh hB1; have X3 := lh hx3; have X6 := lh hx6
 clear hB1 hx3 hx6
 obtain ⟨ut, hut⟩ : ∃ ut, ut = unmB tk text := ⟨_, rfl⟩
 rw [← hut] at hus ⊢
 have HUT := lh hut
 clear hut
 go_upto_region 3 with fail
 have hkp : Kept (fun k => k = w.heap.size) w1 (w1.setCell ⟨w.heap.size, 2, none⟩ (.string ut)) := .setCell (S := fun k => k = w.heap.size) _ rfl _
 have hx3 : (w1.setCell ⟨w.heap.size, 2, none⟩ (.string ut)).heap[w.heap.size]? = some (.cells #[.int .i64 form, .int .i64 n, .string ut, .slice a parts.length cap] 35 (0, 0)) := box_setCell X3.o 2 _
 have hx6 := hkp.get X6.o (by omega)
 have hB1 := HB0.o.trans (hkp.below (n₀ := w.heap.size) (by omega) (by rintro k rfl; omega))
 have hs2 := hkp.size
 generalize (w1.setCell ⟨w.heap.size, 2, none⟩ (.string ut)) = U at *
 have hsU : w.heap.size + 2 ≤ U.heap.size := by omega
 clear X3 X6 HB0 f3 hkp hs1 hs hs2 y0 y1 y2 y3
 have HB0 := lh hB1; have X3 := lh hx3; have X6 := lh hx6
 clear hB1 hx3 hx6
 go_wp2_with fail
 go_loopw [5, 6] (fun vo i wr => ∃ (k : Nat) (xs : List Value), k ≤ parts.length ∧ i = .int .i64 k ∧ wr.ownsRow U.heap.size 35 4 vo k xs ∧ FlaP (OwnN U wr vo) wr ((parts.take k).map (nmP tk)) xs ∧ Below U.heap.size U wr) (fun _ i _ => parts.length - (intOf i).toNat)
 case atStart => exact ⟨0, [], Nat.zero_le _, rfl, World.ownsRow_nil _ _ _ _, rfl, Below.refl _ _⟩
 case round =>
  obtain ⟨k, xs, hk, rfl, hrow, hflat, hB⟩ := hrel
  have hbw : Below w.heap.size w wr := HB0.o.trans (hB.mono HB0.o.size)
  have x3 := bget hB X3.o (by omega)
  have x6 := bget hB X6.o (by omega)
  obtain ⟨y0, y1, y2, y3⟩ := cells4 x3
  by_cases hlt : k < parts.length
  ·have hlt' : (k : Int) < (parts.length : Int) := by omega
   obtain ⟨b, o, rfl, hbn, hss⟩ := HKA.o (by omega)
   obtain ⟨c0, c1, c2, c3, g0, g1, g2, g3, ht⟩ := PtsX.get parts b o hss k hlt
   have q0 := (hbw.cell (p := ⟨b, _, none⟩) (hBb b hbn)).trans g0
   have q1 := (hbw.cell (p := ⟨b, _, none⟩) (hBb b hbn)).trans g1
   have q2 := (hbw.cell (p := ⟨b, _, none⟩) (hBb b hbn)).trans g2
   have q3 := (hbw.cell (p := ⟨b, _, none⟩) (hBb b hbn)).trans g3
   obtain ⟨oo, nn, tt, ka, kn, kc, rfl, rfl, rfl, rfl⟩ := ht.cells
   have HC := lh (HIH.o _ (kid_ltP k hlt) parts[k] rfl _ (.slice ta tk.length tc) wr B (fun b h => by have := hBb b h; have := hbw.size; omega) (PtX.keep (fun x hx => hbw.block x (hBb x hx)) (fun _ h => h) _ _ ht) (lensP_get HLEN.o k hlt) (HTW.o wr hbw))
   have HB := lh hB; have HROW := lh hrow; have HFLAT := lh hflat
   clear g0 g1 g2 g3 hss ht hB hrow hflat x3 x6 hbw
   go_wp2_with fail
   refine HC.o.mono ?_
   rintro e w1 ⟨⟨v2, rfl, hnew⟩, hb1⟩
   have hsz1 := hb1.size
   have hszr := HB.o.size
   obtain ⟨R, hR⟩ : ∃ R, R = nmP tk parts[k] := ⟨_, rfl⟩
   rw [← hR] at hnew
   have HRE := lh hR.symm
   clear hR
   obtain ⟨ra2, rc2, rfl⟩ := PtX.shape hnew
   have hown1 : ∀ kk, u5.ownBlock = some kk → U.heap.size ≤ kk ∧ kk < wr.heap.size := fun kk h => HROW.o.lt kk h
   have hrow1 : w1.ownsRow U.heap.size 35 4 u5 k xs := HROW.o.kept (row := none) ⟨hb1.os, hb1.tape, hb1.output, hb1.size, fun i hi _ => hb1.block i hi⟩ (by cases u5.ownBlock <;> simp)
   have hrow2 := hrow1.alloc (.cells #[.int .i64 R.form, .int .i64 R.n, .string R.text, .slice ra2 R.parts.length rc2] 35)
   have HNEW := lh hnew; have HB1 := lh hb1; have HR2 := lh hrow2; have HO1 := lh hown1
   have hnews := cells_new w1 [.int .i64 R.form, .int .i64 R.n, .string R.text, .slice ra2 R.parts.length rc2] 35
   have HNW := lh hnews
   have hone : ∀ u ∈ [Value.int .i64 R.form, .int .i64 R.n, .string R.text, .slice ra2 R.parts.length rc2], u.oneCell' = true := by intro u hu; simp at hu; rcases hu with rfl | rfl | rfl | rfl <;> rfl
   have HONE := lh hone
   clear hnew hb1 hrow1 hrow2 hown1 hnews hone y0 y1 y2 y3 q0 q1 q2 q3
   go_wp2_with (at_builtin; refine wpList_append_own_at _ rfl _ _ 30 rfl U.heap.size 35 i0 _ 4 56 Tryz.underlying30 hi hz0 hz1 hz2 rfl (by decide) u5 k xs rfl HR2.o ⟨w1.heap.size, 0, none⟩ 1 1 [.int .i64 R.form, .int .i64 R.n, .string R.text, .slice ra2 R.parts.length rc2] rfl rfl HNW.o HONE.o (by unfold maxLen; omega) (by omega) (by simp; omega) ?_; intro v' w' hown' hgr hnil hat; have HOWN := lh hown'; have HGR := lh hgr; have HAT := lh hat; clear hown' hgr hnil hat)
   go_roundw
   case rel =>
    obtain ⟨s1, s2, s3, s4⟩ := ownN_step HB.o HB1.o HO1.o HGR.o HAT.o
    refine ⟨k + 1, _, by omega, by go_num, HOWN.o, ?_, s4⟩
    rw [List.take_succ_eq_append_getElem hlt, List.map_append, List.map_cons, List.map_nil, HRE.o]
    exact FlaP.snoc (PtX.keep (fun b h => (s3 b h.1 h.2).1) (fun b h => (s3 b h.1 h.2).2) _ _ HNEW.o) _ _ (FlaP.keep s1 s2 _ _ HFLAT.o)
   case measure => simp [intOf]; omega
  ·obtain rfl : k = parts.length := by omega
   obtain ⟨ra, rc, rfl⟩ := slice_of_row hrow
   have f3 := free_box x3
   obtain ⟨z0, z1, z2, z3⟩ := cells4 x6
   have f6 := free_box x6
   have HBW := lh hbw; have HROW := lh hrow; have HFLAT := lh hflat; have HB := lh hB
   have hszr := hB.size
   clear hbw hrow hflat hB x3 x6
   go_wp2_with fail
   have hkp0 : Kept (fun k => k = w.heap.size ∨ k = w.heap.size + 1) wr (wr.setCell ⟨w.heap.size, 3, none⟩ (.slice ra parts.length rc)) := .setCell _ (.inl rfl) _
   have hkp : Kept (fun k => k = w.heap.size ∨ k = w.heap.size + 1) wr (((((wr.setCell ⟨w.heap.size, 3, none⟩ (.slice ra parts.length rc)).setCell ⟨w.heap.size + 1, 0, none⟩ (.int .i64 form)).setCell ⟨w.heap.size + 1, 1, none⟩ (.int .i64 n)).setCell ⟨w.heap.size + 1, 2, none⟩ (.string ut)).setCell ⟨w.heap.size + 1, 3, none⟩ (.slice ra parts.length rc)) :=
    (((hkp0.trans (.setCell _ (.inr rfl) _)).trans (.setCell _ (.inr rfl) _)).trans (.setCell _ (.inr rfl) _)).trans (.setCell _ (.inr rfl) _)
   have hs2 := hkp.size
   refine bodyPost_ret (v := .agg #[.int .i64 form, .int .i64 n, .string ut, .slice ra parts.length rc]) (by simp [results, Tryz.results153, go_sem, z0, z1, z2, z3]) rfl ⟨⟨_, rfl, ?_⟩, HBW.o.trans (hkp.below (by omega) (by rintro k (rfl | rfl) <;> omega))⟩
   unfold nmP PtX
   rw [← HUT.o]
   refine ⟨_, rfl, hus, ?_⟩
   rw [nmPs_map, List.length_map]
   refine SlX.ofIn (R := fun b o => PtsX _ _ _ b o) (owned_sl (w := wr) HROW.o (fun b h => ?_) fun b hb hc => ?_) fun _ _ h => h
   ·have := HROW.o.lt b h
    exact ⟨by omega, by have := this.2; omega⟩
   ·have hfl := HFLAT.o
    rw [List.take_length] at hfl
    have hbl := HROW.o.lt b hb
    have own : ∀ x, OwnN U wr (.slice ra parts.length rc) x → U.heap.size ≤ x ∧ x < wr.heap.size := fun x h => h.elim (fun h => h.elim) fun h => ⟨h.1, h.2.1⟩
    refine FlaP.ptsX _ _ _ (FlaP.keep (fun x h => hkp.block x (own x h).2 (by have := (own x h).1; omega)) (fun x h => ⟨by have := (own x h).1; omega, by have := (own x h).2; omega⟩) _ _ hfl) fun i u hi => ?_
    exact (cell_of_heap (hkp.block b hbl.2 (by omega))).trans (hc i u hi)
set_option maxHeartbeats 16000000 in
set_option maxRecDepth 100000 in
theorem named_any (tk : List ByteArray) (hsz : ∀ t ∈ tk, t.size ≤ maxLen) (hl : tk.length ≤ 1000000000) (T : Tm) : ∀ (v tv : Value) (w : World) (B : Nat → Prop), (∀ b, B b → b < w.heap.size) → TmX B w T v → lensM T → (SlIn (fun b => b < w.heap.size) tv tk.length fun b o => StrsAt w tk b o) →
  Calls Tryz.prog 114 #[v, tv] w fun e w' => (∃ v', e = .returned v' ∧ TmX (Fresh w w') w' (nmM tk T) v') ∧ Below w.heap.size w w' := by
 induction hT : SizeOf.sizeOf T using Nat.strongRecOn generalizing T with
 | _ m ih =>
 subst hT
 intro v tv w B hBb hv hlen htv
 obtain ⟨ta, tc, rfl⟩ := htv.split
 obtain ⟨i0, hi, hz0, hz1, hz2⟩ := info_parts Tz.info32
 obtain ⟨j0, hj, jz0, jz1, jz2⟩ := info_parts Tz.info35
 have HIH := lh ih; clear ih
 cases T with
 | mk op n text kids pats =>
 unfold TmX at hv
 obtain ⟨kv, pv, rfl, htx, hk, hp⟩ := hv
 obtain ⟨a, cap, rfl, hcap, hlc, hka⟩ := hk.split
 obtain ⟨a', cap', rfl, hcap', hlc', hpa⟩ := hp.split
 unfold lensM at hlen
 have hl1 := hlen.1
 have hl2 := hlen.2.1
 unfold maxLen at hcap hcap'
 have HKA := lh hka; have HPA := lh hpa; have HLEN := lh hlen.2.2; have HTV := lh htv
 obtain ⟨W, hW, hB0, hs, hx3, hx6⟩ := two_boxes' w #[.int .i64 op, .int .i64 n, .string text, .slice a kids.length cap, .slice a' pats.length cap'] #[.int .i64 0, .int .i64 0, .string ⟨#[]⟩, .slice none 0 0, .slice none 0 0] 32 32
 clear hk hka hp hpa hlen htv
 have HB0 := lh hB0; have X6 := lh hx6; have X3 := lh hx3
 have htvW : ∀ w', Below w.heap.size w w' → (SlIn (fun b => b < w'.heap.size) (.slice ta tk.length tc) tk.length fun b o => StrsAt w' tk b o) := fun w' hb => HTV.o.mono (fun b h => Nat.lt_of_lt_of_le h hb.size) fun b o h hs => StrsAt.keep hb _ _ _ h hs
 have HTW := lh htvW
 clear htvW
 obtain ⟨y0, y1, y2, y3, y4⟩ := cells5 hx3
 have f3 := free_box hx3
 clear hB0 hx6 hx3
 have HC := lh (unm_any text tk _ W ((HTW.o W HB0.o).to (fun b h => h) fun _ _ h => h) hl)
 have hus : (unmB tk text).size ≤ maxLen := unmB_size htx hsz
 go_enter Tryz.func114, Tryz.ntmps114
 go_upto_region 1 with fail
 rw [← hW]
 clear hW
 go_wp2_with fail
 refine HC.o.mono ?_
 rintro e w1 ⟨rfl, hb1⟩
 have hx3 := bget' hb1 X3.out; have hx6 := bget' hb1 X6.o
 have hs1 := hb1.size
 have hB1 := HB0.o.trans (hb1.mono HB0.o.size)
 clear X3 X6 HB0 HC y0 y1 y2 y3 y4 f3 hb1
 have f3 := free_box hx3
 obtain ⟨y0, y1, y2, y3, y4⟩ := cells5 hx3
 have HB0 := lh hB1; have X3 := lh hx3; have X6 := lh hx6
 clear hB1 hx3 hx6
 obtain ⟨ut, hut⟩ : ∃ ut, ut = unmB tk text := ⟨_, rfl⟩
 rw [← hut] at hus ⊢
 have HUT := lh hut
 clear hut
 go_upto_region 3 with fail
 have hkp : Kept (fun k => k = w.heap.size) w1 (w1.setCell ⟨w.heap.size, 2, none⟩ (.string ut)) := .setCell (S := fun k => k = w.heap.size) _ rfl _
 have hx3 : (w1.setCell ⟨w.heap.size, 2, none⟩ (.string ut)).heap[w.heap.size]? = some (.cells #[.int .i64 op, .int .i64 n, .string ut, .slice a kids.length cap, .slice a' pats.length cap'] 32 (0, 0)) := box_setCell X3.o 2 _
 have hx6 := hkp.get X6.o (by omega)
 have hB1 := HB0.o.trans (hkp.below (n₀ := w.heap.size) (by omega) (by rintro k rfl; omega))
 have hs2 := hkp.size
 generalize (w1.setCell ⟨w.heap.size, 2, none⟩ (.string ut)) = U at *
 have hsU : w.heap.size + 2 ≤ U.heap.size := by omega
 clear X3 X6 HB0 f3 hkp hs1 hs hs2 y0 y1 y2 y3 y4
 have HB0 := lh hB1; have X3 := lh hx3; have X6 := lh hx6
 clear hB1 hx3 hx6
 go_wp2_with fail
 go_loopw [5, 6] (fun vo i wr => ∃ (k : Nat) (xs : List Value), k ≤ kids.length ∧ i = .int .i64 k ∧ wr.ownsRow U.heap.size 32 5 vo k xs ∧ FlaM (OwnN U wr vo) wr ((kids.take k).map (nmM tk)) xs ∧ Below U.heap.size U wr) (fun _ i _ => kids.length - (intOf i).toNat)
 case atStart => exact ⟨0, [], Nat.zero_le _, rfl, World.ownsRow_nil _ _ _ _, rfl, Below.refl _ _⟩
 case round =>
  obtain ⟨k, xs, hk, rfl, hrow, hflat, hB⟩ := hrel
  have hbw : Below w.heap.size w wr := HB0.o.trans (hB.mono HB0.o.size)
  have x3 := bget hB X3.o (by omega)
  have x6 := bget hB X6.o (by omega)
  obtain ⟨y0, y1, y2, y3, y4⟩ := cells5 x3
  by_cases hlt : k < kids.length
  ·have hlt' : (k : Int) < (kids.length : Int) := by omega
   obtain ⟨b, o, rfl, hbn, hss⟩ := HKA.o (by omega)
   obtain ⟨c0, c1, c2, c3, c4, g0, g1, g2, g3, g4, ht⟩ := TmsX.get kids b o hss k hlt
   have q0 := (hbw.cell (p := ⟨b, _, none⟩) (hBb b hbn)).trans g0
   have q1 := (hbw.cell (p := ⟨b, _, none⟩) (hBb b hbn)).trans g1
   have q2 := (hbw.cell (p := ⟨b, _, none⟩) (hBb b hbn)).trans g2
   have q3 := (hbw.cell (p := ⟨b, _, none⟩) (hBb b hbn)).trans g3
   have q4 := (hbw.cell (p := ⟨b, _, none⟩) (hBb b hbn)).trans g4
   obtain ⟨oo, nn, tt, ka, kn, kc, pa, pn, pc, rfl, rfl, rfl, rfl, rfl⟩ := ht.cells
   have HC := lh (HIH.o _ (kid_lt k hlt) kids[k] rfl _ (.slice ta tk.length tc) wr B (fun b h => by have := hBb b h; have := hbw.size; omega) (TmX.keep (fun x hx => hbw.block x (hBb x hx)) (fun _ h => h) _ _ ht) (lensM_get HLEN.o.2 k hlt) (HTW.o wr hbw))
   have HB := lh hB; have HROW := lh hrow; have HFLAT := lh hflat
   clear g0 g1 g2 g3 g4 hss ht hB hrow hflat x3 x6 hbw
   go_wp2_with fail
   refine HC.o.mono ?_
   rintro e w1 ⟨⟨v2, rfl, hnew⟩, hb1⟩
   have hsz1 := hb1.size
   have hszr := HB.o.size
   obtain ⟨R, hR⟩ : ∃ R, R = nmM tk kids[k] := ⟨_, rfl⟩
   rw [← hR] at hnew
   have HRE := lh hR.symm
   clear hR
   obtain ⟨ra2, rc2, rb2, rd2, rfl⟩ := TmX.shape hnew
   have hown1 : ∀ kk, u5.ownBlock = some kk → U.heap.size ≤ kk ∧ kk < wr.heap.size := fun kk h => HROW.o.lt kk h
   have hrow1 : w1.ownsRow U.heap.size 32 5 u5 k xs := HROW.o.kept (row := none) ⟨hb1.os, hb1.tape, hb1.output, hb1.size, fun i hi _ => hb1.block i hi⟩ (by cases u5.ownBlock <;> simp)
   have hrow2 := hrow1.alloc (.cells #[.int .i64 R.op, .int .i64 R.n, .string R.text, .slice ra2 R.kids.length rc2, .slice rb2 R.pats.length rd2] 32)
   have HNEW := lh hnew; have HB1 := lh hb1; have HR2 := lh hrow2; have HO1 := lh hown1
   have hnews := cells_new w1 [.int .i64 R.op, .int .i64 R.n, .string R.text, .slice ra2 R.kids.length rc2, .slice rb2 R.pats.length rd2] 32
   have HNW := lh hnews
   have hone : ∀ u ∈ [Value.int .i64 R.op, .int .i64 R.n, .string R.text, .slice ra2 R.kids.length rc2, .slice rb2 R.pats.length rd2], u.oneCell' = true := by intro u hu; simp at hu; rcases hu with rfl | rfl | rfl | rfl | rfl <;> rfl
   have HONE := lh hone
   clear hnew hb1 hrow1 hrow2 hown1 hnews hone y0 y1 y2 y3 y4 q0 q1 q2 q3 q4
   go_wp2_with (at_builtin; refine wpList_append_own_at _ rfl _ _ 29 rfl U.heap.size 32 i0 _ 5 80 Tryz.underlying29 hi hz0 hz1 hz2 rfl (by decide) u5 k xs rfl HR2.o ⟨w1.heap.size, 0, none⟩ 1 1 [.int .i64 R.op, .int .i64 R.n, .string R.text, .slice ra2 R.kids.length rc2, .slice rb2 R.pats.length rd2] rfl rfl HNW.o HONE.o (by unfold maxLen; omega) (by omega) (by simp; omega) ?_; intro v' w' hown' hgr hnil hat; have HOWN := lh hown'; have HGR := lh hgr; have HAT := lh hat; clear hown' hgr hnil hat)
   go_roundw
   case rel =>
    obtain ⟨s1, s2, s3, s4⟩ := ownN_step HB.o HB1.o HO1.o HGR.o HAT.o
    refine ⟨k + 1, _, by omega, by go_num, HOWN.o, ?_, s4⟩
    rw [List.take_succ_eq_append_getElem hlt, List.map_append, List.map_cons, List.map_nil, HRE.o]
    exact FlaM.snoc (TmX.keep (fun b h => (s3 b h.1 h.2).1) (fun b h => (s3 b h.1 h.2).2) _ _ HNEW.o) _ _ (FlaM.keep s1 s2 _ _ HFLAT.o)
   case measure => simp [intOf]; omega
  ·obtain rfl : k = kids.length := by omega
   obtain ⟨ra, rc, rfl⟩ := slice_of_row hrow
   have HK1 := lh hrow; have HK2 := lh hflat; have HUB := lh hB
   clear hlt hk HKA
   have hsz1 := hB.size
   have HB1 := lh hbw
   clear HB0
   have HB0 := HB1
   clear HB1 hbw hB hrow hflat
   rw [List.take_length] at HK2
   generalize wr = V at *
   have X3 := lh x3; have X6 := lh x6
   clear x3 x6
   go_wp2_with fail
   go_loopw [7, 8] (fun vo i wr => ∃ (k : Nat) (xs : List Value), k ≤ pats.length ∧ i = .int .i64 k ∧ wr.ownsRow V.heap.size 35 4 vo k xs ∧ FlaP (OwnN V wr vo) wr ((pats.take k).map (nmP tk)) xs ∧ Below V.heap.size V wr) (fun _ i _ => pats.length - (intOf i).toNat)
   case atStart => exact ⟨0, [], Nat.zero_le _, rfl, World.ownsRow_nil _ _ _ _, rfl, Below.refl _ _⟩
   case round =>
    obtain ⟨k, xs, hk, rfl, hrow, hflat, hB⟩ := hrel
    have hbw : Below w.heap.size w wr := HB0.o.trans (hB.mono HB0.o.size)
    have x3 := bget hB X3.o (by omega)
    have x6 := bget hB X6.o (by omega)
    obtain ⟨y0, y1, y2, y3, y4⟩ := cells5 x3
    by_cases hlt : k < pats.length
    ·have hlt' : (k : Int) < (pats.length : Int) := by omega
     obtain ⟨b, o, rfl, hbn, hss⟩ := HPA.o (by omega)
     obtain ⟨c0, c1, c2, c3, g0, g1, g2, g3, ht⟩ := PtsX.get pats b o hss k hlt
     have q0 := (hbw.cell (p := ⟨b, _, none⟩) (hBb b hbn)).trans g0
     have q1 := (hbw.cell (p := ⟨b, _, none⟩) (hBb b hbn)).trans g1
     have q2 := (hbw.cell (p := ⟨b, _, none⟩) (hBb b hbn)).trans g2
     have q3 := (hbw.cell (p := ⟨b, _, none⟩) (hBb b hbn)).trans g3
     obtain ⟨oo, nn, tt, ka, kn, kc, rfl, rfl, rfl, rfl⟩ := ht.cells
     have HC := lh (namedPat_any tk hsz hl pats[k] _ (.slice ta tk.length tc) wr B (fun b h => by have := hBb b h; have := hbw.size; omega) (PtX.keep (fun x hx => hbw.block x (hBb x hx)) (fun _ h => h) _ _ ht) (lensP_get HLEN.o.1 k hlt) (HTW.o wr hbw))
     have HB := lh hB; have HROW := lh hrow; have HFLAT := lh hflat
     clear g0 g1 g2 g3 hss ht hB hrow hflat x3 x6 hbw
     go_wp2_with fail
     refine HC.o.mono ?_
     rintro e w1 ⟨⟨v2, rfl, hnew⟩, hb1⟩
     have hsz1 := hb1.size
     have hszr := HB.o.size
     obtain ⟨R, hR⟩ : ∃ R, R = nmP tk pats[k] := ⟨_, rfl⟩
     rw [← hR] at hnew
     have HRE := lh hR.symm
     clear hR
     obtain ⟨ra2, rc2, rfl⟩ := PtX.shape hnew
     have hown1 : ∀ kk, u7.ownBlock = some kk → V.heap.size ≤ kk ∧ kk < wr.heap.size := fun kk h => HROW.o.lt kk h
     have hrow1 : w1.ownsRow V.heap.size 35 4 u7 k xs := HROW.o.kept (row := none) ⟨hb1.os, hb1.tape, hb1.output, hb1.size, fun i hi _ => hb1.block i hi⟩ (by cases u7.ownBlock <;> simp)
     have hrow2 := hrow1.alloc (.cells #[.int .i64 R.form, .int .i64 R.n, .string R.text, .slice ra2 R.parts.length rc2] 35)
     have HNEW := lh hnew; have HB1 := lh hb1; have HR2 := lh hrow2; have HO1 := lh hown1
     have hnews := cells_new w1 [.int .i64 R.form, .int .i64 R.n, .string R.text, .slice ra2 R.parts.length rc2] 35
     have HNW := lh hnews
     have hone : ∀ u ∈ [Value.int .i64 R.form, .int .i64 R.n, .string R.text, .slice ra2 R.parts.length rc2], u.oneCell' = true := by intro u hu; simp at hu; rcases hu with rfl | rfl | rfl | rfl <;> rfl
     have HONE := lh hone
     clear hnew hb1 hrow1 hrow2 hown1 hnews hone y0 y1 y2 y3 y4 q0 q1 q2 q3
     go_wp2_with (at_builtin; refine wpList_append_own_at _ rfl _ _ 30 rfl V.heap.size 35 j0 _ 4 56 Tryz.underlying30 hj jz0 jz1 jz2 rfl (by decide) u7 k xs rfl HR2.o ⟨w1.heap.size, 0, none⟩ 1 1 [.int .i64 R.form, .int .i64 R.n, .string R.text, .slice ra2 R.parts.length rc2] rfl rfl HNW.o HONE.o (by unfold maxLen; omega) (by omega) (by simp; omega) ?_; intro v' w' hown' hgr hnil hat; have HOWN := lh hown'; have HGR := lh hgr; have HAT := lh hat; clear hown' hgr hnil hat)
     go_roundw
     case rel =>
      obtain ⟨s1, s2, s3, s4⟩ := ownN_step HB.o HB1.o HO1.o HGR.o HAT.o
      refine ⟨k + 1, _, by omega, by go_num, HOWN.o, ?_, s4⟩
      rw [List.take_succ_eq_append_getElem hlt, List.map_append, List.map_cons, List.map_nil, HRE.o]
      exact FlaP.snoc (PtX.keep (fun b h => (s3 b h.1 h.2).1) (fun b h => (s3 b h.1 h.2).2) _ _ HNEW.o) _ _ (FlaP.keep s1 s2 _ _ HFLAT.o)
     case measure => simp [intOf]; omega
    ·obtain rfl : k = pats.length := by omega
     obtain ⟨pa, pc, rfl⟩ := slice_of_row hrow
     have f3 := free_box x3
     obtain ⟨z0, z1, z2, z3, z4⟩ := cells5 x6
     have f6 := free_box x6
     have HBW := lh hbw; have HROW := lh hrow; have HFLAT := lh hflat; have HB := lh hB
     have hszr := hB.size
     clear hbw hrow hflat hB x3 x6
     go_wp2_with fail
     have hkp0 : Kept (fun k => k = w.heap.size ∨ k = w.heap.size + 1) wr ((wr.setCell ⟨w.heap.size, 3, none⟩ (.slice ra kids.length rc)).setCell ⟨w.heap.size, 4, none⟩ (.slice pa pats.length pc)) := (Kept.setCell _ (.inl rfl) _).trans (.setCell _ (.inl rfl) _)
     have hkp := hkp0.trans ((kept5 _ (w.heap.size + 1) (.int .i64 op) (.int .i64 n) (.string ut) (.slice ra kids.length rc) (.slice pa pats.length pc)).mono (fun b h => .inr h))
     have hs2 := hkp.size
     refine bodyPost_ret (v := .agg #[.int .i64 op, .int .i64 n, .string ut, .slice ra kids.length rc, .slice pa pats.length pc]) (by simp [results, Tryz.results114, go_sem, z0, z1, z2, z3, z4]) rfl ⟨⟨_, rfl, ?_⟩, HBW.o.trans (hkp.below (by omega) (by rintro k (rfl | rfl) <;> omega))⟩
     unfold nmM TmX
     rw [← HUT.o]
     have own1 : ∀ x, OwnN U V (.slice ra kids.length rc) x → U.heap.size ≤ x ∧ x < V.heap.size := fun x h => h.elim (fun h => h.elim) fun h => ⟨h.1, h.2.1⟩
     have own2 : ∀ x, OwnN V wr (.slice pa pats.length pc) x → V.heap.size ≤ x ∧ x < wr.heap.size := fun x h => h.elim (fun h => h.elim) fun h => ⟨h.1, h.2.1⟩
     refine ⟨_, _, rfl, hus, ?_, ?_⟩
     ·rw [nmMs_map, List.length_map]
      refine SlX.ofIn (R := fun b o => TmsX _ _ _ b o) (owned_sl (w := V) HK1.o (fun b h => ?_) fun b hb hc => ?_) fun _ _ h => h
      ·have := HK1.o.lt b h
       exact ⟨by omega, by have := this.2; omega⟩
      ·have hbl := HK1.o.lt b hb
       have hst : ∀ x, x < V.heap.size → U.heap.size ≤ x → _ := fun x h1 h2 => (hkp.block x (by omega) (by omega)).trans (HB.o.block x h1)
       refine FlaM.tmsX _ _ _ (FlaM.keep (fun x h => hst x (own1 x h).2 (own1 x h).1) (fun x h => ⟨by have := (own1 x h).1; omega, by have := (own1 x h).2; omega⟩) _ _ HK2.o) fun i u hi => ?_
       exact (cell_of_heap (hst b hbl.2 hbl.1)).trans (hc i u hi)
     ·rw [List.length_map]
      refine SlX.ofIn (R := fun b o => PtsX _ _ _ b o) (owned_sl (w := wr) HROW.o (fun b h => ?_) fun b hb hc => ?_) fun _ _ h => h
      ·have := HROW.o.lt b h
       exact ⟨by omega, by have := this.2; omega⟩
      ·have hfl := HFLAT.o
       rw [List.take_length] at hfl
       have hbl := HROW.o.lt b hb
       refine FlaP.ptsX _ _ _ (FlaP.keep (fun x h => hkp.block x (own2 x h).2 (by have := (own2 x h).1; omega)) (fun x h => ⟨by have := (own2 x h).1; omega, by have := (own2 x h).2; omega⟩) _ _ hfl) fun i u hi => ?_
       exact (cell_of_heap (hkp.block b hbl.2 (by omega))).trans (hc i u hi)
mutual
def okW : Tm → Prop
 | .mk op _ _ ks ps => (op = 15 → ks.length ≤ ps.length + 1) ∧ ks.length ≤ 900000 ∧ (∀ p ∈ ps, patN p = namesP p ∧ (partsP 1 p).length ≤ 1000000) ∧ okWs ks
def okWs : List Tm → Prop
 | [] => True
 | k :: ks => okW k ∧ okWs ks
end
theorem okWs_get : ∀ {ks : List Tm}, okWs ks → ∀ (k : Nat) (h : k < ks.length), okW ks[k]
 | p :: ps, h, 0, _ => by unfold okWs at h; exact h.1
 | p :: ps, h, k + 1, hk => by unfold okWs at h; exact okWs_get h.2 k (by simpa using hk)
theorem okWs_iff : ∀ {ks : List Tm}, okWs ks ↔ ∀ t ∈ ks, okW t
 | [] => by unfold okWs; simp
 | k :: ks => by unfold okWs; rw [okWs_iff]; simp
mutual
theorem okW_of : ∀ (T : Tm), okF T → okW T
 | .mk op n t ks ps, h => by
  unfold okF at h
  unfold okW
  exact ⟨h.1, h.2.1, fun p hp => ⟨patN_names p 1 (h.2.2.1 p hp).1, (h.2.2.1 p hp).2⟩, okWs_of ks h.2.2.2⟩
theorem okWs_of : ∀ (ts : List Tm), okFs ts → okWs ts
 | [], _ => by unfold okWs; trivial
 | t :: ts, h => by unfold okFs at h; unfold okWs; exact ⟨okW_of t h.1, okWs_of ts h.2⟩
end
set_option maxHeartbeats 2000000 in
set_option maxRecDepth 100000 in
theorem BindsW_any (T : Tm) (i : Nat) (v : Value) (w : World) (hT : TmAt w.heap.size w T v) (hi : i < 1000000) (hp : T.op = 15 → 0 < i → i - 1 < T.pats.length)
  (hh : ∀ p ∈ T.pats, patN p = namesP p ∧ (partsP 1 p).length ≤ 1000000) :
  Calls Tryz.prog 106 #[v, .int .i64 i] w fun e w' => (∃ v', e = .returned v' ∧ SlIn (Fresh w w') v' (boundL T i).length fun b o => StrsAt w' (boundL T i) b o) ∧ Below w.heap.size w w' := by
 obtain ⟨a, cap, a', cap', rfl, htx, hk, hps⟩ := hT.parts
 have HTX := lh htx; have HPS := lh hps; have HH := lh hh; have HP := lh hp
 clear htx hps hk hT hh hp
 have fin1 : ∀ o, boundL T i = [T.text] → (∃ v', Ending.returned (.slice (some ⟨w.heap.size + 1, 0, none⟩) 1 1) = Ending.returned v' ∧ SlIn (Fresh w ((w.alloc o).alloc (.cells #[.string T.text] 9))) v' (boundL T i).length fun b o' => StrsAt ((w.alloc o).alloc (.cells #[.string T.text] 9)) (boundL T i) b o') ∧ Below w.heap.size w ((w.alloc o).alloc (.cells #[.string T.text] 9)) := by
  intro o hb
  rw [hb]
  have hc := heap_alloc_new (w.alloc o) (.cells #[.string T.text] 9)
  rw [World.size_alloc] at hc
  refine ⟨⟨_, rfl, .inr ⟨w.heap.size + 1, 0, 1, rfl, Nat.le_refl _, by unfold maxLen; omega, ⟨by omega, by simp⟩, ⟨⟨cell_box hc, HTX.o⟩, trivial⟩⟩⟩, ((Below.refl _ w).alloc (Nat.le_refl _) _).alloc (by simp) _⟩
 have fin0 : ∀ o, boundL T i = [] → (∃ v', Ending.returned (.slice none 0 0) = Ending.returned v' ∧ SlIn (Fresh w (w.alloc o)) v' (boundL T i).length fun b o' => StrsAt (w.alloc o) (boundL T i) b o') ∧ Below w.heap.size w (w.alloc o) := by
  intro o hb
  rw [hb]
  exact ⟨⟨_, rfl, .inl ⟨rfl, rfl⟩⟩, (Below.refl _ w).alloc (Nat.le_refl _) _⟩
 have FIN1 := lh fin1; have FIN0 := lh fin0
 clear fin1 fin0
 go_enter Tryz.func106, Tryz.ntmps106
 by_cases h5 : T.op = 5
 ·have hb : Hid (boundL T i = [T.text]) := by unfold Hid boundL; simp [h5]
  go_wp2
  go_ret
  exact FIN1.o _ hb.o
 by_cases h27 : T.op = 27
 ·have hb : Hid (boundL T i = [T.text]) := by unfold Hid boundL; simp [h27]
  go_wp2
  go_ret
  exact FIN1.o _ hb.o
 by_cases h7 : T.op = 7
 ·by_cases hi1 : i = 1
  ·have hb : Hid (boundL T i = [T.text]) := by unfold Hid boundL; simp [h7, hi1]
   subst hi1
   go_wp2
   go_ret
   exact FIN1.o _ hb.o
  ·have hb : Hid (boundL T i = []) := by unfold Hid boundL; simp [h7, hi1]
   have hi1' : ¬ ((i : Int) = 1) := by omega
   go_wp2
   go_ret
   exact FIN0.o _ hb.o
 by_cases h15 : T.op = 15
 ·by_cases hi0 : 0 < i
  ·obtain ⟨j, rfl⟩ : ∃ j, i = j + 1 := ⟨i - 1, by omega⟩
   have hj : j < T.pats.length := by simpa using HP.o h15 hi0
   have hb : Hid (boundL T (j + 1) = namesP T.pats[j]) := by unfold Hid boundL; simp [h15, hj]
   have hbox := heap_alloc_new w (.cells #[.int .i64 15, .int .i64 T.n, .string T.text, .slice a T.kids.length cap, .slice a' T.pats.length cap'] 32)
   obtain ⟨b, o, cap2, he, hc1, hc2, hbn, hss⟩ : ∃ b o cap2, (Value.slice a' T.pats.length cap') = .slice (some ⟨b, o, none⟩) T.pats.length cap2 ∧ T.pats.length ≤ cap2 ∧ cap2 ≤ maxLen ∧ b < w.heap.size ∧ PtsAt w.heap.size w T.pats b o := by
    rcases HPS.o with ⟨h, -⟩ | ⟨b, o, cap2, h1, h2, h3, h4, h5⟩
    ·omega
    ·exact ⟨b, o, cap2, h1, h2, h3, h4, h5⟩
   cases he
   obtain ⟨c0, c1, c2, c3, g0, g1, g2, g3, ht⟩ := PtsAt.get T.pats b o hss j hj
   have hBl : Below w.heap.size w (w.alloc (.cells #[.int .i64 15, .int .i64 T.n, .string T.text, .slice a T.kids.length cap, .slice (some ⟨b, o, none⟩) T.pats.length cap'] 32)) := (Below.refl _ w).alloc (Nat.le_refl _) _
   have q0 := (hBl.cell (p := ⟨b, _, none⟩) hbn).trans g0
   have q1 := (hBl.cell (p := ⟨b, _, none⟩) hbn).trans g1
   have q2 := (hBl.cell (p := ⟨b, _, none⟩) hbn).trans g2
   have q3 := (hBl.cell (p := ⟨b, _, none⟩) hbn).trans g3
   have hpj := HH.o _ (List.getElem_mem hj)
   have hnl : (patN T.pats[j]).length ≤ 1000000 := by have := patN_le T.pats[j] 1; omega
   have hnm := PatNames_any T.pats[j] (.agg #[c0, c1, c2, c3]) _ (PtAt.keep hBl hBl.size _ _ ht) (partsP_lens _ 1 hpj.2) hnl
   rw [hpj.1] at hnm
   have HNM := lh hnm; have HBL := lh hBl
   clear hnm hBl hss ht g0 g1 g2 g3 hbox hpj hnl
   go_wp2_with fail
   refine HNM.o.mono ?_
   rintro e w1 ⟨⟨v2, rfl, hsl⟩, hb1⟩
   obtain ⟨a2, cap2, rfl⟩ := hsl.split
   have HSL := lh hsl; have HB1 := lh hb1
   clear hsl hb1
   go_wp2
   go_ret
   rw [hb.o]
   exact ⟨⟨_, rfl, HSL.o.mono (fun b h => ⟨by have := h.1; simp at this; omega, h.2⟩) fun _ _ _ h => h⟩, HBL.o.trans (HB1.o.mono (by simp))⟩
  ·have hb : Hid (boundL T i = []) := by unfold Hid boundL; simp [h15, hi0]
   have hi0' : i = 0 := by omega
   subst hi0'
   go_wp2
   go_ret
   exact FIN0.o _ hb.o
 ·have hb : Hid (boundL T i = []) := by unfold Hid boundL; simp [h5, h27, h7, h15]
  go_wp2
  go_ret
  exact FIN0.o _ hb.o
set_option maxHeartbeats 8000000 in
set_option maxRecDepth 100000 in
theorem renW_any (nm ot : ByteArray) (hot : ot.size ≤ maxLen) (T : Tm) : ∀ (v : Value) (w : World) (B : Nat → Prop), (∀ b, B b → b < w.heap.size) → TmX B w T v → okW T →
  Calls Tryz.prog 144 #[v, .string nm, .string ot] w fun e w' => (∃ v', e = .returned v' ∧ TmX (fun b => B b ∨ Fresh w w' b) w' (rnM nm ot T) v') ∧ Below w.heap.size w w' := by
 induction hT : SizeOf.sizeOf T using Nat.strongRecOn generalizing T with
 | _ m ih =>
 subst hT
 intro v w B hBb hv hok
 obtain ⟨i0, hi, hz0, hz1, hz2⟩ := info_parts Tz.info32
 have HIH := lh ih; clear ih
 cases T with
 | mk op n text kids pats =>
 have hvv := hv
 unfold TmX at hv
 obtain ⟨kv, pv, rfl, htx, hk, hp⟩ := hv
 obtain ⟨a, cap, rfl, hcap, hlc, hka⟩ := hk.split
 obtain ⟨a', cap', rfl, -⟩ := hp.split
 have hok' := hok
 unfold okW at hok
 have hl := hok.2.1
 unfold maxLen at hcap
 have HKA := lh hka; have HOK := lh hok; have HK := lh hk; have HPP := lh hp; have HV := lh hvv
 obtain ⟨W, hW, hB0, hs, hx3, hx6⟩ := two_boxes' w #[.int .i64 op, .int .i64 n, .string text, .slice a kids.length cap, .slice a' pats.length cap'] #[.int .i64 0, .int .i64 0, .string ⟨#[]⟩, .slice none 0 0, .slice none 0 0] 32 32
 clear hk hka hp hok hok' hvv
 have HB0 := lh hB0; have X6 := lh hx6; have X3 := lh hx3
 obtain ⟨y0, y1, y2, y3, y4⟩ := cells5 hx3
 have f3 := free_box hx3
 obtain ⟨z0, z1, z2, z3, z4⟩ := cells5 hx6
 have f6 := free_box hx6
 clear hB0 hx6 hx3
 by_cases h4 : op = 4
 ·subst h4
  by_cases he : (text.toList == nm.toList) = true
  ·go_enter Tryz.func144, Tryz.ntmps144
   go_upto_region 1 with fail
   rw [← hW]
   clear hW
   go_wp2_with fail
   have k1 : Kept (fun k => k = w.heap.size ∨ k = w.heap.size + 1) W (W.setCell ⟨w.heap.size, 2, none⟩ (.string ot)) := .setCell _ (.inl rfl) _
   have hkp := k1.trans ((kept5 _ (w.heap.size + 1) (.int .i64 4) (.int .i64 n) (.string ot) (.slice a kids.length cap) (.slice a' pats.length cap')).mono (fun b h => .inr h))
   have hbf := HB0.o.trans (hkp.below (n₀ := w.heap.size) (by omega) (by rintro k (rfl | rfl) <;> omega))
   have hsz := hbf.size
   have hat : TmX B w (.mk 4 n ot kids pats) (.agg #[.int .i64 4, .int .i64 n, .string ot, .slice a kids.length cap, .slice a' pats.length cap']) := by unfold TmX; exact ⟨_, _, rfl, hot, HK.o, HPP.o⟩
   rw [rnM_mk, if_pos rfl, if_pos he]
   refine bodyPost_ret (v := .agg #[.int .i64 4, .int .i64 n, .string ot, .slice a kids.length cap, .slice a' pats.length cap']) (by simp [results, Tryz.results144, go_sem, z0, z1, z2, z3, z4]) rfl ⟨⟨_, rfl, TmX.keep (fun b hb => hbf.block b (hBb b hb)) (fun b hb => Or.inl hb) _ _ hat⟩, hbf⟩
  ·have he' : (text.toList == nm.toList) = false := by simpa using he
   go_enter Tryz.func144, Tryz.ntmps144
   go_upto_region 1 with fail
   rw [← hW]
   clear hW
   go_wp2_with fail
   have hkp := (kept5 W (w.heap.size + 1) (.int .i64 4) (.int .i64 n) (.string text) (.slice a kids.length cap) (.slice a' pats.length cap')).mono (S' := fun k => k = w.heap.size ∨ k = w.heap.size + 1) (fun b h => .inr h)
   have hbf := HB0.o.trans (hkp.below (n₀ := w.heap.size) (by omega) (by rintro k (rfl | rfl) <;> omega))
   have hsz := hbf.size
   have hat : TmX B w (.mk 4 n text kids pats) (.agg #[.int .i64 4, .int .i64 n, .string text, .slice a kids.length cap, .slice a' pats.length cap']) := by unfold TmX; exact ⟨_, _, rfl, htx, HK.o, HPP.o⟩
   rw [rnM_mk, if_pos rfl, if_neg he]
   refine bodyPost_ret (v := .agg #[.int .i64 4, .int .i64 n, .string text, .slice a kids.length cap, .slice a' pats.length cap']) (by simp [results, Tryz.results144, go_sem, z0, z1, z2, z3, z4]) rfl ⟨⟨_, rfl, TmX.keep (fun b hb => hbf.block b (hBb b hb)) (fun b hb => Or.inl hb) _ _ hat⟩, hbf⟩
 have h4' : (op == 4) = false := by simpa using h4
 rw [rnM_mk, if_neg h4]
 go_enter Tryz.func144, Tryz.ntmps144
 go_upto_region 1 with fail
 rw [← hW]
 clear hW y0 y1 y2 y3 y4 f3 z0 z1 z2 z3 z4 f6
 obtain ⟨y0, y1, y2, y3, y4⟩ := cells5 X3.o
 go_wp2_with fail
 go_loopw [7, 8] (fun vo i wr => ∃ (k : Nat) (xs : List Value), k ≤ kids.length ∧ i = .int .i64 k ∧ wr.ownsRow W.heap.size 32 5 vo k xs ∧ FlaM (OwnX B W wr vo) wr (rnK nm ot (boundL (.mk op n text kids pats)) (kids.take k) 0) xs ∧ Below W.heap.size W wr) (fun _ i _ => kids.length - (intOf i).toNat)
 case atStart => exact ⟨0, [], Nat.zero_le _, rfl, World.ownsRow_nil _ _ _ _, by rw [List.take_zero, rnK_nil]; rfl, Below.refl _ _⟩
 case round =>
  obtain ⟨k, xs, hk, rfl, hrow, hflat, hB⟩ := hrel
  clear y0 y1 y2 y3 y4
  have hbw : Below w.heap.size w wr := HB0.o.trans (hB.mono HB0.o.size)
  have x3 := bget hB X3.o (by omega)
  have x6 := bget hB X6.o (by omega)
  obtain ⟨y0, y1, y2, y3, y4⟩ := cells5 x3
  have hszr := hB.size
  have hszw := hbw.size
  by_cases hlt : k < kids.length
  ·have hlt' : (k : Int) < (kids.length : Int) := by omega
   obtain ⟨b, o, rfl, hbn, hss⟩ := HKA.o (by omega)
   obtain ⟨c0, c1, c2, c3, c4, g0, g1, g2, g3, g4, ht⟩ := TmsX.get kids b o hss k hlt
   have q0 := (hbw.cell (p := ⟨b, _, none⟩) (hBb b hbn)).trans g0
   have q1 := (hbw.cell (p := ⟨b, _, none⟩) (hBb b hbn)).trans g1
   have q2 := (hbw.cell (p := ⟨b, _, none⟩) (hBb b hbn)).trans g2
   have q3 := (hbw.cell (p := ⟨b, _, none⟩) (hBb b hbn)).trans g3
   have q4 := (hbw.cell (p := ⟨b, _, none⟩) (hBb b hbn)).trans g4
   obtain ⟨oo, nn, tt, ka, kn, kc, pa, pn, pc, rfl, rfl, rfl, rfl, rfl⟩ := ht.cells
   have HTK := lh ht; have HB := lh hB; have HROW := lh hrow; have HFLAT := lh hflat; have HBW := lh hbw
   have Y3 := lh x3
   clear g0 g1 g2 g3 g4 hss ht hB hrow hflat x3 x6 hbw
   go_upto_region 10 with fail
   have hxk := heap_alloc_new wr (.cells #[.int .i64 oo, .int .i64 nn, .string tt, .slice ka kn kc, .slice pa pn pc] 32)
   have hb1 : Below wr.heap.size wr (wr.alloc (.cells #[.int .i64 oo, .int .i64 nn, .string tt, .slice ka kn kc, .slice pa pn pc] 32)) := (Below.refl _ wr).alloc (Nat.le_refl _) _
   generalize (wr.alloc (.cells #[.int .i64 oo, .int .i64 nn, .string tt, .slice ka kn kc, .slice pa pn pc] 32)) = V1 at *
   have XK := lh hxk; have HB1 := lh hb1
   have x3 := bget' hb1 Y3.o
   have hsz1 := hb1.size
   have hlt1 := lt_of_block hxk
   clear hxk hb1 y0 y1 y2 y3 y4 q0 q1 q2 q3 q4
   obtain ⟨y0, y1, y2, y3, y4⟩ := cells5 x3
   have hbin := BindsW_any (.mk op n text kids pats) k (.agg #[.int .i64 op, .int .i64 n, .string text, .slice (some ⟨b, o, none⟩) kids.length cap, .slice a' pats.length cap']) V1 (TmX.to (B := B) (fun b hb => by have := hBb b hb; omega) _ _ (TmX.keep (fun x hx => by have := hBb x hx; exact (HB1.o.block x (by omega)).trans (HBW.o.block x (by omega))) (fun _ h => h) _ _ HV.o)) (by omega) (fun h15 h0 => by have := HOK.o.1 h15; show k - 1 < pats.length; omega) HOK.o.2.2.1
   have HBI := lh hbin
   clear hbin x3
   go_wp2_with fail
   refine HBI.o.mono ?_
   rintro e V2 ⟨⟨bv, rfl, hbv⟩, hb2⟩
   obtain ⟨ba, bc, rfl⟩ := hbv.split
   have HBV := lh (hbv.to (n₀ := V2.heap.size) (fun b h => h.2) fun _ _ h => h)
   have HB2 := lh (HB1.o.trans (hb2.mono hsz1))
   have XK2 := lh (bget' hb2 XK.o)
   have hsz2 := hb2.size
   clear hbv hb2 y0 y1 y2 y3 y4 XK
   go_wp2_with fail
   refine (Has_any (boundL (.mk op n text kids pats) k) _ nm V2 HBV.o).mono ?_
   rintro e V3 ⟨rfl, hb3⟩
   have HB3 := lh (HB2.o.trans (hb3.mono HB2.o.size))
   have XK3 := lh (bget' hb3 XK2.o)
   have hsz3 := hb3.size
   clear hb3 XK2
   obtain ⟨r0, r1, r2, r3, r4⟩ := cells5 XK3.o
   cases hbd : hasB (boundL (.mk op n text kids pats) k) nm with

   | true =>
    have HBX := HB3
    have hown1 : ∀ kk, u7.ownBlock = some kk → W.heap.size ≤ kk ∧ kk < wr.heap.size := fun kk h => HROW.o.lt kk h
    have hrow1 : V3.ownsRow W.heap.size 32 5 u7 k xs := HROW.o.kept (row := none) ⟨HBX.o.os, HBX.o.tape, HBX.o.output, HBX.o.size, fun i hi _ => HBX.o.block i hi⟩ (by cases u7.ownBlock <;> simp)
    have hrow2 := hrow1.alloc (.cells #[.int .i64 oo, .int .i64 nn, .string tt, .slice ka kn kc, .slice pa pn pc] 32)
    have HR2 := lh hrow2; have HO1 := lh hown1
    have hnews := cells_new V3 [.int .i64 oo, .int .i64 nn, .string tt, .slice ka kn kc, .slice pa pn pc] 32
    have HNW := lh hnews
    have hone : ∀ u ∈ [Value.int .i64 oo, .int .i64 nn, .string tt, .slice ka kn kc, .slice pa pn pc], u.oneCell' = true := by intro u hu; simp at hu; rcases hu with rfl | rfl | rfl | rfl | rfl <;> rfl
    have HONE := lh hone
    clear hrow1 hrow2 hown1 hnews hone
    go_wp2_with (at_builtin; refine wpList_append_own_at _ rfl _ _ 29 rfl W.heap.size 32 i0 _ 5 80 Tryz.underlying29 hi hz0 hz1 hz2 rfl (by decide) u7 k xs rfl HR2.o ⟨V3.heap.size, 0, none⟩ 1 1 [.int .i64 oo, .int .i64 nn, .string tt, .slice ka kn kc, .slice pa pn pc] rfl rfl HNW.o HONE.o (by unfold maxLen; omega) (by omega) (by simp; omega) ?_; intro v' w' hown' hgr hnil hat; have HOWN := lh hown'; have HGR := lh hgr; have HAT := lh hat; clear hown' hgr hnil hat)
    go_roundw
    case rel =>
     obtain ⟨s1, s2, s3, s4⟩ := ownX_step (B := B) (fun b hb => by have := hBb b hb; omega) HB.o HBX.o HO1.o HGR.o HAT.o
     refine ⟨k + 1, _, by omega, by go_num, HOWN.o, ?_, s4⟩
     have hgs := HGR.o.size
     simp at hgs
     rw [List.take_succ_eq_append_getElem hlt, rnK_snoc, List.length_take, Nat.min_eq_left (by omega), Nat.zero_add, hbd]
     refine FlaM.snoc ?_ _ _ (FlaM.keep s1 s2 _ _ HFLAT.o)
     exact TmX.keep (fun x hx => by have := hBb x hx; exact (s3 x (.inl hx) (by omega)).1.trans ((HB3.o.block x (by omega)).trans (HBW.o.block x (by omega)))) (fun x hx => by have := hBb x hx; exact (s3 x (.inl hx) (by omega)).2) _ _ HTK.o
    case measure => simp [intOf]; omega

   | false =>
    go_wp2_with fail
    refine (HIH.o _ (kid_lt k hlt) kids[k] rfl _ V3 B (fun b hb => by have := hBb b hb; omega) (TmX.keep (fun x hx => by have := hBb x hx; exact (HB3.o.block x (by omega)).trans (HBW.o.block x (by omega))) (fun _ h => h) _ _ HTK.o) (okWs_get HOK.o.2.2.2 k hlt)).mono ?_
    rintro e V4 ⟨⟨v2, rfl, hfar⟩, hb4⟩
    obtain ⟨va, vc, va', vc', rfl⟩ := hfar.shape
    have HFX := lh hfar
    have xk4 := bget' hb4 XK3.o
    have hsz4 := hb4.size
    have HB4 := lh (HB3.o.trans (hb4.mono HB3.o.size))
    clear hfar hb4 r0 r1 r2 r3 r4
    obtain ⟨r0, r1, r2, r3, r4⟩ := cells5 xk4
    have fk := free_box xk4
    go_upto_region 12 with fail
    have hkp := kept5 V4 wr.heap.size (.int .i64 (rnM nm ot kids[k]).op) (.int .i64 (rnM nm ot kids[k]).n) (.string (rnM nm ot kids[k]).text) (.slice va (rnM nm ot kids[k]).kids.length vc) (.slice va' (rnM nm ot kids[k]).pats.length vc')
    have xk5 := box_set5 xk4 (.int .i64 (rnM nm ot kids[k]).op) (.int .i64 (rnM nm ot kids[k]).n) (.string (rnM nm ot kids[k]).text) (.slice va (rnM nm ot kids[k]).kids.length vc) (.slice va' (rnM nm ot kids[k]).pats.length vc')
    generalize (((((V4.setCell ⟨wr.heap.size, 0, none⟩ (.int .i64 (rnM nm ot kids[k]).op)).setCell ⟨wr.heap.size, 1, none⟩ (.int .i64 (rnM nm ot kids[k]).n)).setCell ⟨wr.heap.size, 2, none⟩ (.string (rnM nm ot kids[k]).text)).setCell ⟨wr.heap.size, 3, none⟩ (.slice va (rnM nm ot kids[k]).kids.length vc)).setCell ⟨wr.heap.size, 4, none⟩ (.slice va' (rnM nm ot kids[k]).pats.length vc')) = V5 at *
    have hsz5 := hkp.size
    have HBX := lh (HB4.o.trans (hkp.below (n₀ := wr.heap.size) (by omega) (by rintro x rfl; omega)))
    have h5 : ∀ b, (B b ∨ Fresh V3 V4 b) → b < V4.heap.size ∧ ¬ b = wr.heap.size := fun b h => by
     rcases h with h | h
     ·have := hBb b h; exact ⟨by omega, by omega⟩
     ·have h1 := h.1; exact ⟨h.2, by omega⟩
    have HFX5 := lh (TmX.keep (B := fun b => B b ∨ Fresh V3 V4 b) (B' := fun b => B b ∨ Fresh V3 V4 b) (w := V4) (w' := V5) (fun b h => hkp.block b (h5 b h).1 (h5 b h).2) (fun b h => h) _ _ HFX.o)
    clear hkp r0 r1 r2 r3 r4 fk xk4
    obtain ⟨r0, r1, r2, r3, r4⟩ := cells5 xk5
    clear xk5
    have hown1 : ∀ kk, u7.ownBlock = some kk → W.heap.size ≤ kk ∧ kk < wr.heap.size := fun kk h => HROW.o.lt kk h
    have hrow1 : V5.ownsRow W.heap.size 32 5 u7 k xs := HROW.o.kept (row := none) ⟨HBX.o.os, HBX.o.tape, HBX.o.output, HBX.o.size, fun i hi _ => HBX.o.block i hi⟩ (by cases u7.ownBlock <;> simp)
    have hrow2 := hrow1.alloc (.cells #[.int .i64 (rnM nm ot kids[k]).op, .int .i64 (rnM nm ot kids[k]).n, .string (rnM nm ot kids[k]).text, .slice va (rnM nm ot kids[k]).kids.length vc, .slice va' (rnM nm ot kids[k]).pats.length vc'] 32)
    have HR2 := lh hrow2; have HO1 := lh hown1
    have hnews := cells_new V5 [.int .i64 (rnM nm ot kids[k]).op, .int .i64 (rnM nm ot kids[k]).n, .string (rnM nm ot kids[k]).text, .slice va (rnM nm ot kids[k]).kids.length vc, .slice va' (rnM nm ot kids[k]).pats.length vc'] 32
    have HNW := lh hnews
    have hone : ∀ u ∈ [Value.int .i64 (rnM nm ot kids[k]).op, .int .i64 (rnM nm ot kids[k]).n, .string (rnM nm ot kids[k]).text, .slice va (rnM nm ot kids[k]).kids.length vc, .slice va' (rnM nm ot kids[k]).pats.length vc'], u.oneCell' = true := by intro u hu; simp at hu; rcases hu with rfl | rfl | rfl | rfl | rfl <;> rfl
    have HONE := lh hone
    clear hrow1 hrow2 hown1 hnews hone
    go_wp2_with (at_builtin; refine wpList_append_own_at _ rfl _ _ 29 rfl W.heap.size 32 i0 _ 5 80 Tryz.underlying29 hi hz0 hz1 hz2 rfl (by decide) u7 k xs rfl HR2.o ⟨V5.heap.size, 0, none⟩ 1 1 [.int .i64 (rnM nm ot kids[k]).op, .int .i64 (rnM nm ot kids[k]).n, .string (rnM nm ot kids[k]).text, .slice va (rnM nm ot kids[k]).kids.length vc, .slice va' (rnM nm ot kids[k]).pats.length vc'] rfl rfl HNW.o HONE.o (by unfold maxLen; omega) (by omega) (by simp; omega) ?_; intro v' w' hown' hgr hnil hat; have HOWN := lh hown'; have HGR := lh hgr; have HAT := lh hat; clear hown' hgr hnil hat)
    go_roundw
    case rel =>
     obtain ⟨s1, s2, s3, s4⟩ := ownX_step (B := B) (fun b hb => by have := hBb b hb; omega) HB.o HBX.o HO1.o HGR.o HAT.o
     refine ⟨k + 1, _, by omega, by go_num, HOWN.o, ?_, s4⟩
     have hgs := HGR.o.size
     simp at hgs
     rw [List.take_succ_eq_append_getElem hlt, rnK_snoc, List.length_take, Nat.min_eq_left (by omega), Nat.zero_add, hbd]
     refine FlaM.snoc ?_ _ _ (FlaM.keep s1 s2 _ _ HFLAT.o)
     have hwv : wr.heap.size ≤ V3.heap.size := by omega
     have s5 : ∀ b, (B b ∨ Fresh V3 V4 b) → (B b ∨ wr.heap.size ≤ b) ∧ b < V5.heap.size := fun b h => by
      rcases h with h | h
      ·have := hBb b h; exact ⟨.inl h, by omega⟩
      ·have h1 := h.1; have h2 := h.2; exact ⟨.inr (by omega), by omega⟩
     exact TmX.keep (fun b h => (s3 b (s5 b h).1 (s5 b h).2).1) (fun b h => (s3 b (s5 b h).1 (s5 b h).2).2) _ _ HFX5.o
    case measure => simp [intOf]; omega

  ·obtain rfl : k = kids.length := by omega
   obtain ⟨ra, rc, rfl⟩ := slice_of_row hrow
   have f3 := free_box x3
   obtain ⟨z0, z1, z2, z3, z4⟩ := cells5 x6
   have f6 := free_box x6
   have HBW := lh hbw; have HROW := lh hrow; have HFLAT := lh hflat; have HB := lh hB
   clear hbw hrow hflat hB x3 x6
   go_wp2_with fail
   have hkp0 : Kept (fun k => k = w.heap.size ∨ k = w.heap.size + 1) wr (wr.setCell ⟨w.heap.size, 3, none⟩ (.slice ra kids.length rc)) := .setCell _ (.inl rfl) _
   have hkp := hkp0.trans ((kept5 _ (w.heap.size + 1) (.int .i64 op) (.int .i64 n) (.string text) (.slice ra kids.length rc) (.slice a' pats.length cap')).mono (fun b h => .inr h))
   have hs2 := hkp.size
   have hbf := HBW.o.trans (hkp.below (n₀ := w.heap.size) (by omega) (by rintro k (rfl | rfl) <;> omega))
   have hfl := HFLAT.o
   rw [List.take_length] at hfl
   have own : ∀ b, OwnX B W wr (.slice ra kids.length rc) b → b < wr.heap.size ∧ ¬ (b = w.heap.size ∨ b = w.heap.size + 1) ∧ (B b ∨ w.heap.size ≤ b) := fun b h => by
    rcases h with h | h
    ·have := hBb b h; exact ⟨by omega, by omega, .inl h⟩
    ·have h1 := h.1; have h2 := h.2.1
     exact ⟨by omega, by omega, .inr (by omega)⟩
   refine bodyPost_ret (v := .agg #[.int .i64 op, .int .i64 n, .string text, .slice ra kids.length rc, .slice a' pats.length cap']) (by simp [results, Tryz.results144, go_sem, z0, z1, z2, z3, z4]) rfl ⟨⟨_, rfl, ?_⟩, hbf⟩
   unfold TmX
   refine ⟨_, _, rfl, htx, ?_, HPP.o.mono (fun b h => .inl h) fun b o hlt h => PtsX.keep (fun x hx => hbf.block x (hBb x hx)) (fun x h => .inl h) _ _ _ hlt h⟩
   rw [rnK_len]
   refine SlX.ofIn (R := fun b o => TmsX _ _ _ b o) (owned_sl HROW.o (fun b h => ?_) fun b hb hc => ?_) fun _ _ h => h
   ·have := HROW.o.lt b h
    exact .inr ⟨by omega, by have := this.2; omega⟩
   ·have hbl := HROW.o.lt b hb
    refine FlaM.tmsX _ _ _ (FlaM.keep (fun x h => hkp.block x (own x h).1 (own x h).2.1) (fun x h => (own x h).2.2.imp_right fun h' => ⟨h', by have := (own x h).1; omega⟩) _ _ hfl) fun i u hi => ?_
    exact (cell_of_heap (hkp.block b hbl.2 (by omega))).trans (hc i u hi)
set_option maxHeartbeats 8000000 in
set_option maxRecDepth 100000 in
theorem rebW_any (nm ot : ByteArray) (hot : ot.size ≤ maxLen) (T : Tm) (i : Nat) (v : Value) (w : World) (B : Nat → Prop) (hBb : ∀ b, B b → b < w.heap.size) (hv : TmX B w T v) (hok : okW T) (hlen : lensM T) (hik : i < T.kids.length) (hip : T.op = 15 → 0 < i ∧ i - 1 < T.pats.length) :
  Calls Tryz.prog 110 #[v, .int .i64 i, .string nm, .string ot] w fun e w' => (∃ v', e = .returned v' ∧ TmX (fun b => B b ∨ Fresh w w' b) w' (rbM nm ot i T) v') ∧ Below w.heap.size w w' := by
 obtain ⟨i0, hi, hz0, hz1, hz2⟩ := info_parts Tz.info32
 cases T with
 | mk op n text kids pats =>
 change i < kids.length at hik
 change op = 15 → 0 < i ∧ i - 1 < pats.length at hip
 unfold TmX at hv
 obtain ⟨kv, pv, rfl, htx, hk, hp⟩ := hv
 obtain ⟨a, cap, rfl, hcap, hlc, hka⟩ := hk.split
 obtain ⟨a', cap', rfl, hcap', hlc', hpa⟩ := hp.split
 obtain ⟨kb, ko, rfl, hkb, hks⟩ := hka (by omega)
 obtain ⟨cs, hflat, hcs⟩ := FlaM.of _ _ hks
 have hcl := FlaM.length _ _ hflat
 have hone := FlaM.one _ _ hflat
 obtain ⟨c0, c1, c2, c3, c4, e0, e1, e2, e3, e4, hkid⟩ := FlaM.get _ _ hflat i hik
 obtain ⟨oo, nn, tt, ka, kn, kc, pa, pn, pc, rfl, rfl, rfl, rfl, rfl⟩ := hkid.cells
 unfold lensM at hlen
 have hl := hlen.1
 have hl' := hlen.2.1
 have hokk := hok
 unfold okW at hokk
 obtain ⟨W, hW, hB0, hs, hx4, hx8⟩ := two_boxes' w #[.int .i64 op, .int .i64 n, .string text, .slice (some ⟨kb, ko, none⟩) kids.length cap, .slice a' pats.length cap'] #[.int .i64 0, .int .i64 0, .string ⟨#[]⟩, .slice none 0 0, .slice none 0 0] 32 32
 have HB0 := lh hB0; have X8 := lh hx8; have X4 := lh hx4; have HKID := lh hkid; have HFL := lh hflat; have HPP := lh hp; have HPA := lh hpa
 have HKOK := lh (okWs_get hokk.2.2.2 i hik)
 have hnews : ∀ j u, cs[j]? = some u → W.cell? ((⟨kb, ko, none⟩ : Addr).add j) = some u := fun j u hj => by
  have : ((⟨kb, ko, none⟩ : Addr).add j) = ⟨kb, ko + j, none⟩ := by unfold Addr.add; split <;> simp_all
  rw [this]
  exact (hB0.cell (p := ⟨kb, _, none⟩) (hBb kb hkb)).trans (hcs j u hj)
 have HNW := lh hnews; have HONE := lh hone
 have hik' : (i : Int) < (kids.length : Int) := by omega
 have HLP := lh hlen.2.2.1; have HIP := lh hip
 obtain ⟨y0, y1, y2, y3, y4⟩ := cells5 hx4
 have f4 := free_box hx4
 clear hk hka hp hpa hks hcs hflat hkid hB0 hx8 hx4 hnews hone hok hokk hlen hip
 unfold maxLen at hcap hcap'
 go_enter Tryz.func110, Tryz.ntmps110
 go_upto_region 1 with fail
 rw [← hW]
 clear hW
 have hWcell : ∀ w' : World, W.grownBy w' (Value.slice none 0 0).ownBlock → Below W.heap.size W w' := fun w' hgr => below_of_grown (v := .slice none 0 0) hgr (Nat.le_refl _) (by intro g hg; cases hg)
 go_upto_region 2 with (at_builtin; refine wpList_append_own_at _ rfl _ _ 29 rfl W.heap.size 32 i0 _ 5 80 Tryz.underlying29 hi hz0 hz1 hz2 rfl (by decide) (.slice none 0 0) 0 [] rfl (World.ownsRow_nil _ _ _ _) ⟨kb, ko, none⟩ kids.length cap cs rfl hcl HNW.o HONE.o (by unfold maxLen; omega) (by omega) (Nat.le_refl _) ?_; intro v' w' hown' hgr hnil hat; obtain ⟨rg, rcap, cur, rfl, hrg, hrh, hrn, hrm, hrs, hrt⟩ := row_lay (n := kids.length) (ys := cs) hown' (by omega) rfl (by omega); have HRH := lh hrh; have HRT := lh hrt; have HRM := lh hrm; have hrgl := lt_of_block hrh; have hbw0 := hWcell w' hgr; have HGR := lh hbw0; have hx4' := bget' hbw0 X4.out; have hsw' := hbw0.size; clear y0 y1 y2 y3 y4 f4 hown' hgr hnil hat hbw0 hrh hrt hrm; obtain ⟨y0, y1, y2, y3, y4⟩ := cells5 hx4'; have f4 := free_box hx4'; have X4' := lh hx4'; clear hx4')
 have k1 : Kept (fun k => k = w.heap.size) w' (w'.setCell ⟨w.heap.size, 3, none⟩ (.slice (some ⟨rg, 0, none⟩) kids.length rcap)) := .setCell (S := fun k => k = w.heap.size) _ rfl _
 have hx4 := box_setCell X4'.o 3 (.slice (some ⟨rg, 0, none⟩) kids.length rcap)
 have hx8 := (k1.block _ (by omega) (by omega)).trans (bget' HGR.o X8.o)
 have hu := (HB0.o.trans (HGR.o.mono HB0.o.size)).trans (k1.below (n₀ := w.heap.size) (by omega) (by rintro x rfl; omega))
 have hrh1 := (k1.block rg hrgl (by omega)).trans HRH.o
 have hus := k1.size
 generalize (w'.setCell ⟨w.heap.size, 3, none⟩ (.slice (some ⟨rg, 0, none⟩) kids.length rcap)) = U1 at *
 have HU := lh hu; have Z4 := lh hx4; have Z8 := lh hx8; have HR1 := lh hrh1
 clear k1 X4' X8 X4 HRH HGR y0 y1 y2 y3 y4 f4 hWcell HNW HONE HB0
 obtain ⟨y0, y1, y2, y3, y4⟩ := cells5 hx4
 have r0 := lay_cell hrh1 HRT.o e0
 have r1 := lay_cell hrh1 HRT.o e1
 have r2 := lay_cell hrh1 HRT.o e2
 have r3 := lay_cell hrh1 HRT.o e3
 have r4 := lay_cell hrh1 HRT.o e4
 clear hx4 hx8 hu hrh1 e0 e1 e2 e3 e4
 go_wp2_with fail
 refine (renW_any nm ot hot kids[i] _ U1 B (fun b hb => by have := hBb b hb; have := HU.o.size; omega) (TmX.keep (fun x hx => HU.o.block x (hBb x hx)) (fun _ h => h) _ _ HKID.o) HKOK.o).mono ?_
 rintro e V2 ⟨⟨v2, rfl, hfx⟩, hb2⟩
 obtain ⟨va, vc, va', vc', rfl⟩ := hfx.shape
 have HFX := lh hfx
 have hs2 := hb2.size
 replace HU := lh (HU.o.trans (hb2.mono HU.o.size))
 replace Z4 := lh (bget' hb2 Z4.o)
 replace Z8 := lh (bget' hb2 Z8.o)
 replace HR1 := lh (bget' hb2 HR1.o)
 clear hfx hb2 y0 y1 y2 y3 y4 r0 r1 r2 r3 r4
 go_upto_region 3 with fail
 have hb3 := (Below.refl _ V2).alloc (Nat.le_refl _) (.cells #[.int .i64 (rnM nm ot kids[i]).op, .int .i64 (rnM nm ot kids[i]).n, .string (rnM nm ot kids[i]).text, .slice va (rnM nm ot kids[i]).kids.length vc, .slice va' (rnM nm ot kids[i]).pats.length vc'] 32)
 have hx9 := heap_alloc_new V2 (.cells #[.int .i64 (rnM nm ot kids[i]).op, .int .i64 (rnM nm ot kids[i]).n, .string (rnM nm ot kids[i]).text, .slice va (rnM nm ot kids[i]).kids.length vc, .slice va' (rnM nm ot kids[i]).pats.length vc'] 32)
 replace HU := lh (HU.o.trans (hb3.mono HU.o.size))
 replace Z4 := lh (bget' hb3 Z4.o)
 replace Z8 := lh (bget' hb3 Z8.o)
 replace HR1 := lh (bget' hb3 HR1.o)
 have hs3 := lt_of_block hx9
 have HV23 := lh hb3
 generalize (V2.alloc (.cells #[.int .i64 (rnM nm ot kids[i]).op, .int .i64 (rnM nm ot kids[i]).n, .string (rnM nm ot kids[i]).text, .slice va (rnM nm ot kids[i]).kids.length vc, .slice va' (rnM nm ot kids[i]).pats.length vc'] 32)) = V3 at *
 clear hb3
 obtain ⟨y0, y1, y2, y3, y4⟩ := cells5 Z4.o
 obtain ⟨p0, p1, p2, p3, p4⟩ := cells5 hx9
 have f0 := free_box HR1.o
 have t0 := row_some HR1.o (show i * 5 < cur.size by omega)
 have t1 := row_some HR1.o (show i * 5 + 1 < cur.size by omega)
 have t2 := row_some HR1.o (show i * 5 + 2 < cur.size by omega)
 have t3 := row_some HR1.o (show i * 5 + 3 < cur.size by omega)
 have t4 := row_some HR1.o (show i * 5 + 4 < cur.size by omega)
 clear hx9
 go_upto_region 4 with fail
 have hpt := put5 V3 rg (i * 5) _ _ _ _ _ (.int .i64 (rnM nm ot kids[i]).op) (.int .i64 (rnM nm ot kids[i]).n) (.string (rnM nm ot kids[i]).text) (.slice va (rnM nm ot kids[i]).kids.length vc) (.slice va' (rnM nm ot kids[i]).pats.length vc') t0 t1 t2 t3 t4
 generalize (((((V3.setCell ⟨rg, i * 5, none⟩ (.int .i64 (rnM nm ot kids[i]).op)).setCell ⟨rg, i * 5 + 1, none⟩ (.int .i64 (rnM nm ot kids[i]).n)).setCell ⟨rg, i * 5 + 2, none⟩ (.string (rnM nm ot kids[i]).text)).setCell ⟨rg, i * 5 + 3, none⟩ (.slice va (rnM nm ot kids[i]).kids.length vc)).setCell ⟨rg, i * 5 + 4, none⟩ (.slice va' (rnM nm ot kids[i]).pats.length vc')) = V4 at *
 obtain ⟨k4, ⟨v0, v1, v2, v3, v4⟩, v5⟩ := hpt V4 rfl
 have hs4 := k4.size
 have HV4 := lh (HU.o.trans (k4.below (n₀ := w.heap.size) (by omega) (by rintro x rfl; omega)))
 have hsV4 := HV4.o.size
 have hkrow : ∀ (w'' : World) (B' : Nat → Prop), (∀ b, B b ∨ (W.heap.size ≤ b ∧ b < V4.heap.size) → w''.heap[b]? = V4.heap[b]? ∧ B' b) → TmsX B' w'' (kids.set i (rnM nm ot kids[i])) rg 0 := fun w'' B' hw => by
  have old : ∀ b, B b → w''.heap[b]? = w.heap[b]? := fun b hb => (hw b (.inl hb)).1.trans (HV4.o.block b (hBb b hb))
  have row : ∀ j, w''.cell? ⟨rg, j, none⟩ = V4.cell? ⟨rg, j, none⟩ := fun j => cell_of_heap (hw rg (.inr ⟨by omega, by omega⟩)).1
  have kid : ∀ b, (B b ∨ Fresh U1 V2 b) → (B b ∨ (W.heap.size ≤ b ∧ b < V4.heap.size)) ∧ b ≠ rg ∧ b < V3.heap.size ∧ b < V2.heap.size := fun b h => by
   rcases h with h | h
   ·have := hBb b h; exact ⟨.inl h, by omega, by omega, by omega⟩
   ·have h1 := h.1; have h2 := h.2; exact ⟨.inr ⟨by omega, by omega⟩, by omega, by omega, by omega⟩
  refine FlaM.set (B := B') (e0 := .int .i64 (rnM nm ot kids[i]).op) (e1 := .int .i64 (rnM nm ot kids[i]).n) (e2 := .string (rnM nm ot kids[i]).text) (e3 := .slice va (rnM nm ot kids[i]).kids.length vc) (e4 := .slice va' (rnM nm ot kids[i]).pats.length vc') kids cs 0 i hik (FlaM.keep old (fun b hb => (hw b (.inl hb)).2) _ _ HFL.o) (fun j u hj hu => ?_) ?_ ?_ ?_ ?_ ?_ (TmX.keep (fun b hb => ?_) (fun b hb => (hw b (kid b hb).1).2) _ _ HFX.o)
  ·rw [Nat.zero_add, row, v5 j hj]
   exact lay_cell HR1.o HRT.o hu
  ·rw [Nat.zero_add, row]; exact v0
  ·rw [Nat.zero_add, row]; exact v1
  ·rw [Nat.zero_add, row]; exact v2
  ·rw [Nat.zero_add, row]; exact v3
  ·rw [Nat.zero_add, row]; exact v4
  ·obtain ⟨k1, k2, k3, k6⟩ := kid b hb
   exact (hw b k1).1.trans ((k4.block b k3 k2).trans (HV23.o.block b k6))
 have HKROW := lh hkrow
 have q4 := (k4.block w.heap.size (by omega) (by omega)).trans Z4.o
 have q8 := (k4.block (w.heap.size + 1) (by omega) (by omega)).trans Z8.o
 have Q4 := lh q4; have Q8 := lh q8
 clear hkrow v0 v1 v2 v3 v4 v5 k4 hpt t0 t1 t2 t3 t4 f0 p0 p1 p2 p3 p4 y0 y1 y2 y3 y4 Z4 Z8 q8
 obtain ⟨y0, y1, y2, y3, y4⟩ := cells5 q4
 have f4 := free_box q4
 clear q4
 have hset : kids.set i (rnM nm ot (kids.getD i default)) = kids.set i (rnM nm ot kids[i]) := by
  rw [List.getD_eq_getElem?_getD, List.getElem?_eq_getElem hik]; rfl
 have HSET := lh hset
 clear hset
 by_cases h15 : op = 15
 case neg =>
  have h15' : (op == 15) = false := by simpa using h15
  go_upto_region 9 with fail
  have k5 : Kept (fun k => k = w.heap.size) V4 (V4.setCell ⟨w.heap.size, 2, none⟩ (.string ot)) := .setCell (S := fun k => k = w.heap.size) _ rfl _
  have hx4 := box_setCell Q4.o 2 (.string ot)
  have hx8 := (k5.block _ (by omega) (by omega)).trans Q8.o
  have hs5 := k5.size
  have K5 := lh k5
  generalize (V4.setCell ⟨w.heap.size, 2, none⟩ (.string ot)) = V5 at *
  clear y0 y1 y2 y3 y4 f4 k5
  obtain ⟨y0, y1, y2, y3, y4⟩ := cells5 hx4
  obtain ⟨z0, z1, z2, z3, z4⟩ := cells5 hx8
  have f8 := free_box hx8
  clear hx4 hx8
  go_wp2_with fail
  have hkp := (K5.o.mono (S' := fun k => k = w.heap.size ∨ k = w.heap.size + 1) (fun b h => .inl h)).trans ((kept5 V5 (w.heap.size + 1) (.int .i64 op) (.int .i64 n) (.string ot) (.slice (some ⟨rg, 0, none⟩) kids.length rcap) (.slice a' pats.length cap')).mono (fun b h => .inr h))
  have hs6 := hkp.size
  have hbf := HV4.o.trans (hkp.below (n₀ := w.heap.size) (by omega) (by rintro k (rfl | rfl) <;> omega))
  refine bodyPost_ret (v := .agg #[.int .i64 op, .int .i64 n, .string ot, .slice (some ⟨rg, 0, none⟩) kids.length rcap, .slice a' pats.length cap']) (by simp [results, Tryz.results110, go_sem, z0, z1, z2, z3, z4]) rfl ⟨⟨_, rfl, ?_⟩, hbf⟩
  show TmX _ _ (.mk op n (if op = 15 then text else ot) (kids.set i (rnM nm ot (kids.getD i default))) (if op = 15 then _ else pats)) _
  rw [if_neg h15, if_neg h15, HSET.o]
  unfold TmX
  refine ⟨_, _, rfl, hot, .inr ⟨rg, 0, rcap, by rw [List.length_set], by rw [List.length_set]; exact hrn, HRM.o, .inr ⟨by omega, by omega⟩, ?_⟩, HPP.o.mono (fun b h => .inl h) fun b o hlt h => PtsX.keep (fun x hx => hbf.block x (hBb x hx)) (fun x h => .inl h) _ _ _ hlt h⟩
  refine HKROW.o _ _ (fun b hb => ?_)
  have hb4 : b < V4.heap.size ∧ ¬ (b = w.heap.size ∨ b = w.heap.size + 1) := by
   rcases hb with h | h
   ·have := hBb b h; exact ⟨by omega, by omega⟩
   ·exact ⟨h.2, by omega⟩
  exact ⟨hkp.block b hb4.1 hb4.2, hb.imp_right fun h => ⟨by omega, by omega⟩⟩
 subst h15
 obtain ⟨hi0, hip⟩ := HIP.o rfl
 obtain ⟨pb, po, rfl, hpb, hps⟩ := HPA.o (by omega)
 obtain ⟨qs, hfq, hqs⟩ := FlaP.of _ _ hps
 have hql := FlaP.length _ _ hfq
 have hqone := FlaP.one _ _ hfq
 obtain ⟨d0, d1, d2, d3, e0, e1, e2, e3, hpat⟩ := FlaP.get _ _ hfq (i - 1) hip
 obtain ⟨oo', nn', tt', ka', kn', kc', rfl, rfl, rfl, rfl⟩ := hpat.cells
 obtain ⟨j0, hj, jz0, jz1, jz2⟩ := info_parts Tz.info35
 have hnewq : ∀ j u, qs[j]? = some u → V4.cell? ((⟨pb, po, none⟩ : Addr).add j) = some u := fun j u hj => by
  have : ((⟨pb, po, none⟩ : Addr).add j) = ⟨pb, po + j, none⟩ := by unfold Addr.add; split <;> simp_all
  rw [this]
  exact (HV4.o.cell (p := ⟨pb, _, none⟩) (hBb pb hpb)).trans (hqs j u hj)
 have HNQ := lh hnewq; have HQO := lh hqone; have HFQ := lh hfq; have HPT := lh hpat
 have hPcell : ∀ w' : World, V4.grownBy w' (Value.slice none 0 0).ownBlock → Below V4.heap.size V4 w' := fun w' hgr => below_of_grown (v := .slice none 0 0) hgr (Nat.le_refl _) (by intro g hg; cases hg)
 have hii : ((i : Int) - 1) = ((i - 1 : Nat) : Int) := by omega
 have hin0 : (0 : Int) ≤ (i : Int) - 1 := by omega
 have hin1 : (i : Int) - 1 < (pats.length : Int) := by omega
 clear hqs hnewq hqone hfq hpat hps HPA HIP
 go_upto_region 6 with (at_builtin; refine wpList_append_own_at _ rfl _ _ 30 rfl V4.heap.size 35 j0 _ 4 56 Tryz.underlying30 hj jz0 jz1 jz2 rfl (by decide) (.slice none 0 0) 0 [] rfl (World.ownsRow_nil _ _ _ _) ⟨pb, po, none⟩ pats.length cap' qs rfl hql HNQ.o HQO.o (by unfold maxLen; omega) (by omega) (Nat.le_refl _) ?_; intro v' w' hown' hgr hnil hat; obtain ⟨rp, rpcap, pcur, rfl, hrp, hrph, hrpn, hrpm, hrps, hrpt⟩ := row_lay (n := pats.length) (ys := qs) hown' (by omega) rfl (by omega); have HPH := lh hrph; have HPRT := lh hrpt; have HPM := lh hrpm; have hrpl := lt_of_block hrph; have hbw0 := hPcell w' hgr; have HGR := lh hbw0; have hx4' := bget' hbw0 Q4.out; have hsw' := hbw0.size; clear y0 y1 y2 y3 y4 f4 hown' hgr hnil hat hbw0 hrph hrpt hrpm; obtain ⟨y0, y1, y2, y3, y4⟩ := cells5 hx4'; have f4 := free_box hx4'; have X4' := lh hx4'; clear hx4')
 have k1 : Kept (fun k => k = w.heap.size) w' (w'.setCell ⟨w.heap.size, 4, none⟩ (.slice (some ⟨rp, 0, none⟩) pats.length rpcap)) := .setCell (S := fun k => k = w.heap.size) _ rfl _
 have hx4 := box_setCell X4'.o 4 (.slice (some ⟨rp, 0, none⟩) pats.length rpcap)
 have hx8 := (k1.block _ (by omega) (by omega)).trans (bget' HGR.o Q8.o)
 have hu := (HV4.o.trans (HGR.o.mono HV4.o.size)).trans (k1.below (n₀ := w.heap.size) (by omega) (by rintro x rfl; omega))
 have hrp1 := (k1.block rp hrpl (by omega)).trans HPH.o
 have hk1 : Kept (fun k => k = w.heap.size) V4 (w'.setCell ⟨w.heap.size, 4, none⟩ (.slice (some ⟨rp, 0, none⟩) pats.length rpcap)) := (Kept.of_below HGR.o).trans k1
 have hus := k1.size
 generalize (w'.setCell ⟨w.heap.size, 4, none⟩ (.slice (some ⟨rp, 0, none⟩) pats.length rpcap)) = U2 at *
 have HU2 := lh hu; have P4 := lh hx4; have P8 := lh hx8; have HP1 := lh hrp1; have HK1 := lh hk1
 clear k1 X4' HPH HGR y0 y1 y2 y3 y4 f4 hPcell HNQ HQO hk1
 obtain ⟨y0, y1, y2, y3, y4⟩ := cells5 hx4
 have r0 := lay_cell hrp1 HPRT.o e0
 have r1 := lay_cell hrp1 HPRT.o e1
 have r2 := lay_cell hrp1 HPRT.o e2
 have r3 := lay_cell hrp1 HPRT.o e3
 clear hx4 hx8 hu hrp1 e0 e1 e2 e3
 go_wp2_with fail
 refine (refRenPat_any nm ot hot pats[i - 1] _ U2 U2.heap.size (Nat.le_refl _) (PtX.to (B := B) (fun b hb => by have := hBb b hb; have := HU2.o.size; omega) _ _ (PtX.keep (fun x hx => HU2.o.block x (hBb x hx)) (fun _ h => h) _ _ HPT.o)) (lensP_get HLP.o _ hip)).mono ?_
 rintro e V6 ⟨⟨v6, rfl, hnew⟩, hb6⟩
 obtain ⟨o6, n6, t6, ka6, kn6, kc6, rfl⟩ := PtIn.shape hnew
 have HNEW := lh hnew
 have hs6 := hb6.size
 replace HU2 := lh (HU2.o.trans (hb6.mono HU2.o.size))
 replace P4 := lh (bget' hb6 P4.o)
 replace P8 := lh (bget' hb6 P8.o)
 replace HP1 := lh (bget' hb6 HP1.o)
 replace HK1 := lh (HK1.o.trans (Kept.of_below hb6))
 clear hnew hb6 y0 y1 y2 y3 y4 r0 r1 r2 r3
 go_upto_region 7 with fail
 have hb7 := (Below.refl _ V6).alloc (Nat.le_refl _) (.cells #[.int .i64 o6, .int .i64 n6, .string t6, .slice ka6 kn6 kc6] 35)
 have hx9 := heap_alloc_new V6 (.cells #[.int .i64 o6, .int .i64 n6, .string t6, .slice ka6 kn6 kc6] 35)
 replace HU2 := lh (HU2.o.trans (hb7.mono HU2.o.size))
 replace P4 := lh (bget' hb7 P4.o)
 replace P8 := lh (bget' hb7 P8.o)
 replace HP1 := lh (bget' hb7 HP1.o)
 replace HK1 := lh (HK1.o.trans (Kept.of_below hb7))
 have hs7 := lt_of_block hx9
 have HV67 := lh hb7
 generalize (V6.alloc (.cells #[.int .i64 o6, .int .i64 n6, .string t6, .slice ka6 kn6 kc6] 35)) = V7 at *
 clear hb7
 obtain ⟨y0, y1, y2, y3, y4⟩ := cells5 P4.o
 obtain ⟨p0, p1, p2, p3⟩ := cells4 hx9
 have f0 := free_box HP1.o
 have t0 := row_some HP1.o (show (i - 1) * 4 < pcur.size by omega)
 have t1 := row_some HP1.o (show (i - 1) * 4 + 1 < pcur.size by omega)
 have t2 := row_some HP1.o (show (i - 1) * 4 + 2 < pcur.size by omega)
 have t3 := row_some HP1.o (show (i - 1) * 4 + 3 < pcur.size by omega)
 clear hx9
 go_upto_region 9 with fail
 have hpt := put4 V7 rp ((i - 1) * 4) _ _ _ _ (.int .i64 o6) (.int .i64 n6) (.string t6) (.slice ka6 kn6 kc6) t0 t1 t2 t3
 generalize ((((V7.setCell ⟨rp, (i - 1) * 4, none⟩ (.int .i64 o6)).setCell ⟨rp, (i - 1) * 4 + 1, none⟩ (.int .i64 n6)).setCell ⟨rp, (i - 1) * 4 + 2, none⟩ (.string t6)).setCell ⟨rp, (i - 1) * 4 + 3, none⟩ (.slice ka6 kn6 kc6)) = V8 at *
 obtain ⟨k8, ⟨v0, v1, v2, v3⟩, v5⟩ := hpt V8 rfl
 have hs8 := k8.size
 have HV8 := lh (HU2.o.trans (k8.below (n₀ := w.heap.size) (by omega) (by rintro x rfl; omega)))
 have hsV8 := HV8.o.size
 have HK8 := lh ((HK1.o.mono (S' := fun k => k = w.heap.size ∨ k = rp) (fun b h => .inl h)).trans (k8.mono fun b h => .inr h))
 have hprow : ∀ (w'' : World) (B' : Nat → Prop), (∀ b, B b ∨ (V4.heap.size ≤ b ∧ b < V8.heap.size) → w''.heap[b]? = V8.heap[b]? ∧ B' b) → PtsX B' w'' (pats.set (i - 1) (rnP nm ot pats[i - 1])) rp 0 := fun w'' B' hw => by
  have old : ∀ b, B b → w''.heap[b]? = w.heap[b]? := fun b hb => (hw b (.inl hb)).1.trans (HV8.o.block b (hBb b hb))
  have row : ∀ j, w''.cell? ⟨rp, j, none⟩ = V8.cell? ⟨rp, j, none⟩ := fun j => cell_of_heap (hw rp (.inr ⟨by omega, by omega⟩)).1
  refine FlaP.set (B := B') (e0 := .int .i64 o6) (e1 := .int .i64 n6) (e2 := .string t6) (e3 := .slice ka6 kn6 kc6) pats qs 0 (i - 1) hip (FlaP.keep old (fun b hb => (hw b (.inl hb)).2) _ _ HFQ.o) (fun j u hj hu => ?_) ?_ ?_ ?_ ?_ (PtX.keep (fun b hb => ?_) (fun b hb => ?_) _ _ (PtX.ofIn _ _ HNEW.o))
  ·rw [Nat.zero_add, row, v5 j hj]
   exact lay_cell HP1.o HPRT.o hu
  ·rw [Nat.zero_add, row]; exact v0
  ·rw [Nat.zero_add, row]; exact v1
  ·rw [Nat.zero_add, row]; exact v2
  ·rw [Nat.zero_add, row]; exact v3
  ·have h1 := hb.1; have h2 := hb.2
   exact (hw b (.inr ⟨by omega, by omega⟩)).1.trans ((k8.block b (by omega) (by omega)).trans (HV67.o.block b h2))
  ·have h1 := hb.1; have h2 := hb.2
   exact (hw b (.inr ⟨by omega, by omega⟩)).2
 have HPROW := lh hprow
 have q4 := (k8.block w.heap.size (by omega) (by omega)).trans P4.o
 have q8 := (k8.block (w.heap.size + 1) (by omega) (by omega)).trans P8.o
 clear hprow v0 v1 v2 v3 v5 k8 hpt t0 t1 t2 t3 f0 p0 p1 p2 p3 y0 y1 y2 y3 y4 P4 P8 Q4 Q8
 obtain ⟨y0, y1, y2, y3, y4⟩ := cells5 q4
 obtain ⟨z0, z1, z2, z3, z4⟩ := cells5 q8
 have f8 := free_box q8
 clear q4 q8
 go_wp2_with fail
 have hpset : pats.set (i - 1) (rnP nm ot (pats.getD (i - 1) default)) = pats.set (i - 1) (rnP nm ot pats[i - 1]) := by
  rw [List.getD_eq_getElem?_getD, List.getElem?_eq_getElem hip]; rfl
 have k9 := kept5 V8 (w.heap.size + 1) (.int .i64 15) (.int .i64 n) (.string text) (.slice (some ⟨rg, 0, none⟩) kids.length rcap) (.slice (some ⟨rp, 0, none⟩) pats.length rpcap)
 have hs9 := k9.size
 have hbf := HV8.o.trans (k9.below (n₀ := w.heap.size) (by omega) (by rintro k rfl; omega))
 refine bodyPost_ret (v := .agg #[.int .i64 15, .int .i64 n, .string text, .slice (some ⟨rg, 0, none⟩) kids.length rcap, .slice (some ⟨rp, 0, none⟩) pats.length rpcap]) (by simp [results, Tryz.results110, go_sem, z0, z1, z2, z3, z4]) rfl ⟨⟨_, rfl, ?_⟩, hbf⟩
 show TmX _ _ (.mk 15 n text (kids.set i (rnM nm ot (kids.getD i default))) (pats.set (i - 1) (rnP nm ot (pats.getD (i - 1) default)))) _
 rw [HSET.o, hpset]
 unfold TmX
 refine ⟨_, _, rfl, htx, .inr ⟨rg, 0, rcap, by rw [List.length_set], by rw [List.length_set]; exact hrn, HRM.o, .inr ⟨by omega, by omega⟩, ?_⟩, .inr ⟨rp, 0, rpcap, by rw [List.length_set], by rw [List.length_set]; exact hrpn, HPM.o, .inr ⟨by omega, by omega⟩, ?_⟩⟩
 ·refine HKROW.o _ _ (fun b hb => ?_)
  have hb4 : b < V4.heap.size ∧ ¬ (b = w.heap.size ∨ b = w.heap.size + 1) ∧ b ≠ rp := by
   rcases hb with h | h
   ·have := hBb b h; exact ⟨by omega, by omega, by omega⟩
   ·exact ⟨h.2, by omega, by omega⟩
  exact ⟨(k9.block b (by omega) (by omega)).trans (HK8.o.block b hb4.1 (by omega)), hb.imp_right fun h => ⟨by omega, by omega⟩⟩
 ·refine HPROW.o _ _ (fun b hb => ?_)
  have hb4 : b < V8.heap.size ∧ b ≠ w.heap.size + 1 := by
   rcases hb with h | h
   ·have := hBb b h; exact ⟨by omega, by omega⟩
   ·exact ⟨h.2, by omega⟩
  exact ⟨k9.block b hb4.1 hb4.2, hb.imp_right fun h => ⟨by omega, by omega⟩⟩
def anN (i : Nat) : List ByteArray → Tm × List ByteArray → Tm × List ByteArray
 | [], s => s
 | x :: xs, s => anN i xs (rbM x (markB s.2.length) i s.1, s.2 ++ [firstW (inL s.2)])
def anI : Nat → Nat → Tm × List ByteArray → Tm × List ByteArray
 | 0, _, s => s
 | n + 1, i, s => anI n (i + 1) (anN i (boundL s.1 i) s)
def anK (rec : Tm → List ByteArray → Tm × List ByteArray) : List Tm → List ByteArray → List Tm × List ByteArray
 | [], tk => ([], tk)
 | k :: ks, tk => ((rec k tk).1 :: (anK rec ks (rec k tk).2).1, (anK rec ks (rec k tk).2).2)
def anR : Nat → Tm → List ByteArray → Tm × List ByteArray
 | 0, T, tk => (T, tk)
 | f + 1, T, tk => (.mk (anI T.kids.length 0 (T, tk)).1.op (anI T.kids.length 0 (T, tk)).1.n (anI T.kids.length 0 (T, tk)).1.text (anK (anR f) (anI T.kids.length 0 (T, tk)).1.kids (anI T.kids.length 0 (T, tk)).2).1 (anI T.kids.length 0 (T, tk)).1.pats,
   (anK (anR f) (anI T.kids.length 0 (T, tk)).1.kids (anI T.kids.length 0 (T, tk)).2).2)
theorem anN_drop (i : Nat) (bl : List ByteArray) (k : Nat) (hk : k < bl.length) (s : Tm × List ByteArray) : anN i (bl.drop k) s = anN i (bl.drop (k + 1)) (rbM bl[k] (markB s.2.length) i s.1, s.2 ++ [firstW (inL s.2)]) := by
 rw [List.drop_eq_getElem_cons hk]
 rfl
theorem anK_len (rec : Tm → List ByteArray → Tm × List ByteArray) : ∀ (ks : List Tm) (tk : List ByteArray), (anK rec ks tk).1.length = ks.length
 | [], _ => rfl
 | k :: ks, tk => by
  show (anK rec ks (rec k tk).2).1.length + 1 = ks.length + 1
  rw [anK_len rec ks]
theorem anK_snoc (rec : Tm → List ByteArray → Tm × List ByteArray) : ∀ (ks : List Tm) (k : Tm) (tk : List ByteArray), anK rec (ks ++ [k]) tk = ((anK rec ks tk).1 ++ [(rec k (anK rec ks tk).2).1], (rec k (anK rec ks tk).2).2)
 | [], _, _ => rfl
 | x :: ks, k, tk => by
  show ((rec x tk).1 :: (anK rec (ks ++ [k]) (rec x tk).2).1, (anK rec (ks ++ [k]) (rec x tk).2).2) = _
  rw [anK_snoc rec ks k]
  rfl
theorem markB_size (n : Nat) (h : n ≤ 1000000000) : (markB n).size ≤ maxLen := by
 have := lettersB_size n
 unfold markB maxLen
 rw [ByteArray.size_append]
 show 1 + (lettersB n).size ≤ _
 omega
mutual
theorem patN_F (r : ByteArray → ByteArray) : ∀ p : Pt, patN (rnF r p) = (patN p).map r
 | .mk f n t ps => by
  rw [rnF_mk]
  have e1 : patN (.mk f n (if f = 2 then r t else t) (rnFs r ps)) = if f = 2 then [if f = 2 then r t else t] else patNs (rnFs r ps) := by conv => lhs; unfold patN
  have e2 : patN (.mk f n t ps) = if f = 2 then [t] else patNs ps := by conv => lhs; unfold patN
  rw [e1, e2, patNs_F r ps]
  by_cases h : f = 2
  ·rw [if_pos h, if_pos h, if_pos h]; rfl
  ·rw [if_neg h, if_neg h]
theorem patNs_F (r : ByteArray → ByteArray) : ∀ ps : List Pt, patNs (rnFs r ps) = (patNs ps).map r
 | [] => by rw [rnFs_nil]; unfold patNs; rfl
 | p :: ps => by rw [rnFs_cons, patNs_cons, patNs_cons, List.map_append, patN_F r p, patNs_F r ps]
end
theorem namesL_cons (p : Pt) (ps : List Pt) : namesL (p :: ps) = if p.form = 2 then p.text :: namesL ps else namesL ps := by
 unfold namesL
 rw [List.filter_cons]
 by_cases h : p.form = 2 <;> simp [h]
theorem namesL_app (ps qs : List Pt) : namesL (ps ++ qs) = namesL ps ++ namesL qs := by
 unfold namesL; rw [List.filter_append, List.map_append]
mutual
theorem namesF (r : ByteArray → ByteArray) : ∀ (p : Pt) (d : Int), namesL ((partsP d (rnF r p)).map (·.2)) = (namesL ((partsP d p).map (·.2))).map r
 | .mk f n t ps, d => by
  rw [rnF_mk, partsP_mk, partsP_mk, List.map_cons, List.map_cons, namesL_cons, namesL_cons, namesFs r ps (d + 1)]
  show (if f = 2 then (if f = 2 then r t else t) :: _ else _) = List.map r (if f = 2 then t :: _ else _)
  by_cases h : f = 2
  ·rw [if_pos h, if_pos h, if_pos h]; rfl
  ·rw [if_neg h, if_neg h]
theorem namesFs (r : ByteArray → ByteArray) : ∀ (ps : List Pt) (d : Int), namesL ((partssP d (rnFs r ps)).map (·.2)) = (namesL ((partssP d ps).map (·.2))).map r
 | [], d => by rw [rnFs_nil]; unfold partssP; rfl
 | p :: ps, d => by
  have e : ∀ (p : Pt) (ps : List Pt), partssP d (p :: ps) = partsP d p ++ partssP d ps := fun p ps => by conv => lhs; unfold partssP
  rw [rnFs_cons, e, e, List.map_append, List.map_append, namesL_app, namesL_app, List.map_append, namesF r p d, namesFs r ps d]
end
theorem namesP_F (r : ByteArray → ByteArray) (p : Pt) : namesP (rnF r p) = (namesP p).map r := namesF r p 1
theorem patN_rn (nm ot : ByteArray) {p : Pt} (h : patN p = namesP p) : patN (rnP nm ot p) = namesP (rnP nm ot p) := by
 rw [rnP_F, patN_F, namesP_F, h]
mutual
theorem okW_rn (nm ot : ByteArray) : ∀ (T : Tm), okW T → okW (rnM nm ot T)
 | .mk op n t ks ps, h => by
  rw [rnM_mk]
  split
  ·unfold okW at h ⊢; exact h
  ·unfold okW at h ⊢
   rw [rnK_len]
   exact ⟨h.1, h.2.1, h.2.2.1, okWs_rn nm ot _ ks 0 h.2.2.2⟩
theorem okWs_rn (nm ot : ByteArray) (bnd : Nat → List ByteArray) : ∀ (ts : List Tm) (i : Nat), okWs ts → okWs (rnK nm ot bnd ts i)
 | [], _, _ => by rw [rnK_nil]; unfold okWs; trivial
 | t :: ts, i, h => by
  unfold okWs at h
  rw [rnK_cons]
  unfold okWs
  refine ⟨?_, okWs_rn nm ot bnd ts (i + 1) h.2⟩
  split
  ·exact h.1
  ·exact okW_rn nm ot t h.1
end
structure AW (T : Tm) : Prop where
 w : okW T
 l : lensM T
 b : okB T
 c : cntN T ≤ 1000
theorem AW.rb {T : Tm} (h : AW T) (nm ot : ByteArray) (i : Nat) (hi : i < T.kids.length) : AW (rbM nm ot i T) := by
 have hbd := bound_rb nm ot i T
 obtain ⟨hf, hl, hb, hc⟩ := h
 cases T with
 | mk op n t ks ps =>
  change i < ks.length at hi
  unfold okW at hf
  unfold lensM at hl
  rw [okB_eq] at hb
  have hm : ks.getD i default ∈ ks := getD_mem hi
  refine ⟨?_, ?_, ?_, ?_⟩
  ·unfold rbM okW
   rw [List.length_set]
   refine ⟨fun h => ?_, hf.2.1, fun p hp => ?_, okWs_iff.2 fun t' ht => ?_⟩
   ·rw [if_pos h, List.length_set]; exact hf.1 h
   ·split at hp
    ·rcases mem_set' hp with h | ⟨rfl, h⟩
     ·exact hf.2.2.1 p h
     ·have h1 := hf.2.2.1 _ (getD_mem (d := default) h)
      exact ⟨patN_rn nm ot h1.1, by rw [parts_rnP]; exact h1.2⟩
    ·exact hf.2.2.1 p hp
   ·rcases mem_set' ht with h | ⟨rfl, -⟩
    ·exact okWs_iff.1 hf.2.2.2 t' h
    ·exact okW_rn _ _ _ (okWs_iff.1 hf.2.2.2 _ hm)
  ·unfold rbM lensM
   rw [List.length_set]
   refine ⟨hl.1, ?_, lenssP_iff.2 fun p hp => ?_, lenssM_iff.2 fun t' ht => ?_⟩
   ·split
    ·rw [List.length_set]; exact hl.2.1
    ·exact hl.2.1
   ·split at hp
    ·rcases mem_set' hp with h | ⟨rfl, h⟩
     ·exact lenssP_iff.1 hl.2.2.1 p h
     ·exact lensP_rn _ _ _ (lenssP_iff.1 hl.2.2.1 _ (getD_mem (d := default) h))
    ·exact lenssP_iff.1 hl.2.2.1 p hp
   ·rcases mem_set' ht with h | ⟨rfl, -⟩
    ·exact lenssM_iff.1 hl.2.2.2 t' h
    ·exact lensM_rn _ _ _ (lenssM_iff.1 hl.2.2.2 _ hm)
  ·rw [okB_eq]
   refine ⟨?_, fun k => by rw [hbd k]; exact hb.2.1 k, okBs_iff.2 fun t' ht => ?_⟩
   ·show (ks.set i _).length ≤ 6
    rw [List.length_set]; exact hb.1
   ·change t' ∈ ks.set i _ at ht
    rcases mem_set' ht with h | ⟨rfl, -⟩
    ·exact okBs_iff.1 hb.2.2 t' h
    ·exact okB_rn _ _ _ (okBs_iff.1 hb.2.2 _ hm)
  ·rw [cntN_eq] at hc ⊢
   show 1 + cntNs (ks.set i _) ≤ 1000
   rw [cntNs_set _ _ _ (cntN_rn _ _ _)]; exact hc
theorem AW.kid {T : Tm} (h : AW T) (k : Nat) (hk : k < T.kids.length) : AW T.kids[k] := by
 cases T with
 | mk op n t ks ps =>
  obtain ⟨hf, hl, hb, hc⟩ := h
  unfold okW at hf
  unfold lensM at hl
  have hc2 := cntNs_get k hk
  rw [cntN_eq] at hc
  exact ⟨okWs_get hf.2.2.2 k hk, lensM_get hl.2.2.2 k hk, okBs_get ((okB_eq _).1 hb).2.2 k hk, by omega⟩
theorem AW.of {T : Tm} (h : RS T) : AW T := ⟨okW_of T h.f, h.l, h.b, h.c⟩
theorem AW.k6 {T : Tm} (h : AW T) : T.kids.length ≤ 6 := ((okB_eq T).1 h.b).1
theorem AW.b12 {T : Tm} (h : AW T) (k : Nat) : (boundL T k).length ≤ 12 := ((okB_eq T).1 h.b).2.1 k
theorem AW.p15 {T : Tm} (h : AW T) (h15 : T.op = 15) (k : Nat) (h0 : 0 < k) (hk : k < T.kids.length) : k - 1 < T.pats.length := by
 obtain ⟨hf, -, -, -⟩ := h
 cases T with
 | mk op n t ks ps =>
  unfold okW at hf
  have h1 : ks.length ≤ ps.length + 1 := hf.1 h15
  have h2 : k < ks.length := hk
  show k - 1 < ps.length
  omega
theorem AW.pp {T : Tm} (h : AW T) : ∀ p ∈ T.pats, patN p = namesP p ∧ (partsP 1 p).length ≤ 1000000 := by
 obtain ⟨hf, -, -, -⟩ := h
 cases T with
 | mk op n t ks ps =>
  unfold okW at hf
  exact hf.2.2.1
structure KW (T T' : Tm) : Prop where
 rs : AW T'
 op : T'.op = T.op
 len : T'.kids.length = T.kids.length
 h : heightM T' = heightM T
 c : cntN T' = cntN T
 b : ∀ k, (boundL T' k).length = (boundL T k).length
theorem KW.refl {T : Tm} (h : AW T) : KW T T := ⟨h, rfl, rfl, rfl, rfl, fun _ => rfl⟩
theorem cnt_rb (nm ot : ByteArray) (i : Nat) (T : Tm) : cntN (rbM nm ot i T) = cntN T := by
 cases T with
 | mk op n t ks ps =>
  rw [cntN_eq, cntN_eq]
  show 1 + cntNs (ks.set i _) = 1 + cntNs ks
  rw [cntNs_set _ _ _ (cntN_rn _ _ _)]
theorem KW.rb {T T' : Tm} (h : KW T T') (nm ot : ByteArray) (i : Nat) (hi : i < T.kids.length) : KW T (rbM nm ot i T') :=
 ⟨h.rs.rb nm ot i (by rw [h.len]; exact hi), by rw [opRb]; exact h.op, by rw [lenRb]; exact h.len, by rw [height_rb]; exact h.h, by rw [cnt_rb]; exact h.c, fun k => by rw [bound_rb]; exact h.b k⟩
attribute [local go_sem] eval_put_same eval_put_ne size_put
def r113x0 : Oper := { dst := some 28, op := Op.load 32 (Operand.tmp 2), type := 32, pos := "ref.go:474", after := #[], guard := none }
def r113x1 : Oper := { dst := some 29, op := Op.move (Operand.tmp 6), type := 3, pos := "ref.go:474", after := #[], guard := none }
def r113x2 : Oper := { dst := some 30, op := Op.move (Operand.tmp 7), type := 22, pos := "ref.go:474", after := #[], guard := none }
def r113x3 : Oper := { dst := some 31, op := Op.move (Operand.tmp 8), type := 3, pos := "ref.go:474", after := #[], guard := none }
def r113x4 : Oper := { dst := some 32, op := Op.indexAddr 22 (Operand.tmp 30) (Operand.tmp 31), type := 0, pos := "ref.go:474", after := #[{ on := 2, ground := Ground.data }, { on := 3, ground := Ground.data }], guard := none }
def r113x5 : Oper := { dst := some 33, op := Op.load 9 (Operand.tmp 32), type := 9, pos := "ref.go:474", after := #[{ on := 4, ground := Ground.data }], guard := none }
def r113x6 : Oper := { dst := some 34, op := Op.move (Operand.tmp 1), type := 22, pos := "ref.go:474", after := #[], guard := none }
def r113x7 : Oper := { dst := some 35, op := Op.call { callee := Callee.builtin Builtin.len, args := #[Operand.tmp 34], argTypes := #[22] }, type := 3, pos := "ref.go:474", after := #[{ on := 6, ground := Ground.data }], guard := none }
def r113x8 : Oper := { dst := some 36, op := Op.call { callee := Callee.value (Operand.func 151), args := #[Operand.tmp 35], argTypes := #[3] }, type := 9, pos := "ref.go:474", after := #[{ on := 7, ground := Ground.data }], guard := none }
def r113x9 : Oper := { dst := some 37, op := Op.call { callee := Callee.value (Operand.func 110), args := #[Operand.tmp 28, Operand.tmp 29, Operand.tmp 33, Operand.tmp 36], argTypes := #[32, 3, 9, 9] }, type := 32, pos := "ref.go:474", after := #[{ on := 0, ground := Ground.data }, { on := 1, ground := Ground.data }, { on := 5, ground := Ground.data }, { on := 8, ground := Ground.data }, { on := 8, ground := Ground.chain }], guard := none }
def r113x10 : Oper := { dst := none, op := Op.store 32 (Operand.tmp 2) (Operand.tmp 37), type := 0, pos := "ref.go:474", after := #[{ on := 9, ground := Ground.data }, { on := 9, ground := Ground.chain }, { on := 0, ground := Ground.phase }, { on := 1, ground := Ground.phase }, { on := 2, ground := Ground.phase }, { on := 3, ground := Ground.phase }, { on := 4, ground := Ground.phase }, { on := 5, ground := Ground.phase }, { on := 6, ground := Ground.phase }, { on := 7, ground := Ground.phase }, { on := 8, ground := Ground.phase }, { on := 9, ground := Ground.phase }], guard := none }
def ops113 : Array Oper := #[r113x0, r113x1, r113x2, r113x3, r113x4, r113x5, r113x6, r113x7, r113x8, r113x9, r113x10]
attribute [local go_sem] r113x0 r113x1 r113x2 r113x3 r113x4 r113x5 r113x6 r113x7 r113x8 r113x9 r113x10
set_option maxHeartbeats 4000000 in
set_option maxRecDepth 100000 in
theorem reg113 {Q : Exit → Act → World → Prop} {a : Act} {U : World} {qb bb bo i k bn bc tn tc : Nat} {ta : Option Addr} {y0 y1 : Int} {y2 x : ByteArray} {y3 y5 : Option Addr} {m3 y4 m5 y6 : Nat} {R : Value → World → World → Prop}
  (hsz : a.tmps.size = 72) (h2 : a.tmps[2]'(by omega) = .pointer (some ⟨qb, 0, none⟩)) (h1 : a.tmps[1]'(by omega) = .slice ta tn tc) (h6 : a.tmps[6]'(by omega) = .int .i64 i) (h7 : a.tmps[7]'(by omega) = .slice (some ⟨bb, bo, none⟩) bn bc) (h8 : a.tmps[8]'(by omega) = .int .i64 k)
  (hQ : ∀ c (d : Nat) v (a : Act) w, Q (.panic c) (a.put (some d) v) w → Q (.panic c) a w) (htn : tn < 2 ^ 40)
  (hS : ((U.cell? ⟨qb, 0, none⟩ = some (.int .i64 y0) ∧ U.cell? ⟨qb, 1, none⟩ = some (.int .i64 y1) ∧ U.cell? ⟨qb, 2, none⟩ = some (.string y2) ∧ U.cell? ⟨qb, 3, none⟩ = some (.slice y3 m3 y4) ∧ U.cell? ⟨qb, 4, none⟩ = some (.slice y5 m5 y6)) ∧ U.cell? ⟨bb, bo + k, none⟩ = some (.string x))) (hq : U.heap[qb]? = some (.cells #[.int .i64 y0, .int .i64 y1, .string y2, .slice y3 m3 y4, .slice y5 m5 y6] 32 (0, 0))) (hbb : bb < U.heap.size) (hk : k < bn)
  (hc : ∀ w1, Below U.heap.size U w1 → Calls Tryz.prog 110 #[.agg #[.int .i64 y0, .int .i64 y1, .string y2, .slice y3 m3 y4, .slice y5 m5 y6], .int .i64 i, .string x, .string (markB tn)] w1 fun e w' => (∃ o2 n2 t2 ka2 kn2 kc2 pa2 pn2 pc2, e = .returned (.agg #[.int .i64 o2, .int .i64 n2, .string t2, .slice ka2 kn2 kc2, .slice pa2 pn2 pc2]) ∧ R (.agg #[.int .i64 o2, .int .i64 n2, .string t2, .slice ka2 kn2 kc2, .slice pa2 pn2 pc2]) w1 w') ∧ Below w1.heap.size w1 w')
  (hK : ∀ (u28 u29 u30 u31 u32 u33 u34 u35 u36 v : Value) (o2 n2 : Int) (t2 : ByteArray) (ka2 : Option Addr) (kn2 kc2 : Nat) (pa2 : Option Addr) (pn2 pc2 : Nat) (w1 w2 : World), Below U.heap.size U w1 → R (.agg #[.int .i64 o2, .int .i64 n2, .string t2, .slice ka2 kn2 kc2, .slice pa2 pn2 pc2]) w1 w2 → Below w1.heap.size w1 w2 →
   Q .normal { tmps := ((((((((((a.tmps.setIfInBounds 28 u28).setIfInBounds 29 u29).setIfInBounds 30 u30).setIfInBounds 31 u31).setIfInBounds 32 u32).setIfInBounds 33 u33).setIfInBounds 34 u34).setIfInBounds 35 u35).setIfInBounds 36 u36).setIfInBounds 37 v), defers := a.defers } (((((w2.setCell ⟨qb, 0, none⟩ (.int .i64 o2)).setCell ⟨qb, 1, none⟩ (.int .i64 n2)).setCell ⟨qb, 2, none⟩ (.string t2)).setCell ⟨qb, 3, none⟩ (.slice ka2 kn2 kc2)).setCell ⟨qb, 4, none⟩ (.slice pa2 pn2 pc2))) :
  (Code.region 8 ops113 true).wp Tryz.prog Q a U := by
 have hS0 : ((U.drew.cell? ⟨qb, 0, none⟩ = some (.int .i64 y0) ∧ U.drew.cell? ⟨qb, 1, none⟩ = some (.int .i64 y1) ∧ U.drew.cell? ⟨qb, 2, none⟩ = some (.string y2) ∧ U.drew.cell? ⟨qb, 3, none⟩ = some (.slice y3 m3 y4) ∧ U.drew.cell? ⟨qb, 4, none⟩ = some (.slice y5 m5 y6)) ∧ U.drew.cell? ⟨bb, bo + k, none⟩ = some (.string x)) := hS
 have hk' : (k : Int) < (bn : Int) := by omega
 have hqb := lt_of_block hq
 have HS := lh hS; have HC := lh hc; have HK := lh hK; have HQ := lh hq
 clear hS hc hK hq
 refine wp_region_z (fun w' => ((w'.cell? ⟨qb, 0, none⟩ = some (.int .i64 y0) ∧ w'.cell? ⟨qb, 1, none⟩ = some (.int .i64 y1) ∧ w'.cell? ⟨qb, 2, none⟩ = some (.string y2) ∧ w'.cell? ⟨qb, 3, none⟩ = some (.slice y3 m3 y4) ∧ w'.cell? ⟨qb, 4, none⟩ = some (.slice y5 m5 y6)) ∧ w'.cell? ⟨bb, bo + k, none⟩ = some (.string x))) 10 (by kernel_rfl) ?_
 refine wpAnyZ_take 0 (oi := r113x0) hS0 rfl (by kernel_rfl) (by kernel_rfl) (by kernel_rfl) (fun c a w h => hQ c _ _ a w h) (by kernel_rfl) rfl (by rfl) (by rintro w' ⟨⟨k0, k1, k2, k3, k4⟩, m0⟩; go_simp <;> rfl) ?_
 refine wpAnyZ_take 1 (oi := r113x1) hS0 rfl (by kernel_rfl) (by kernel_rfl) (by kernel_rfl) (fun c a w h => hQ c _ _ a w h) (by kernel_rfl) rfl (by rfl) (by rintro w' ⟨⟨k0, k1, k2, k3, k4⟩, m0⟩; go_simp <;> rfl) ?_
 refine wpAnyZ_take 2 (oi := r113x2) hS0 rfl (by kernel_rfl) (by kernel_rfl) (by kernel_rfl) (fun c a w h => hQ c _ _ a w h) (by kernel_rfl) rfl (by rfl) (by rintro w' ⟨⟨k0, k1, k2, k3, k4⟩, m0⟩; go_simp <;> rfl) ?_
 refine wpAnyZ_take 3 (oi := r113x3) hS0 rfl (by kernel_rfl) (by kernel_rfl) (by kernel_rfl) (fun c a w h => hQ c _ _ a w h) (by kernel_rfl) rfl (by rfl) (by rintro w' ⟨⟨k0, k1, k2, k3, k4⟩, m0⟩; go_simp <;> rfl) ?_
 refine wpAnyZ_take 4 (oi := r113x4) hS0 rfl (by kernel_rfl) (by kernel_rfl) (by kernel_rfl) (fun c a w h => hQ c _ _ a w h) (by kernel_rfl) rfl (by rfl) (by rintro w' ⟨⟨k0, k1, k2, k3, k4⟩, m0⟩; go_simp <;> rfl) ?_
 refine wpAnyZ_take 5 (oi := r113x5) hS0 rfl (by kernel_rfl) (by kernel_rfl) (by kernel_rfl) (fun c a w h => hQ c _ _ a w h) (by kernel_rfl) rfl (by rfl) (by rintro w' ⟨⟨k0, k1, k2, k3, k4⟩, m0⟩; go_simp <;> rfl) ?_
 refine wpAnyZ_take 6 (oi := r113x6) hS0 rfl (by kernel_rfl) (by kernel_rfl) (by kernel_rfl) (fun c a w h => hQ c _ _ a w h) (by kernel_rfl) rfl (by rfl) (by rintro w' ⟨⟨k0, k1, k2, k3, k4⟩, m0⟩; go_simp <;> rfl) ?_
 refine wpAnyZ_take 7 (oi := r113x7) hS0 rfl (by kernel_rfl) (by kernel_rfl) (by kernel_rfl) (fun c a w h => hQ c _ _ a w h) (by kernel_rfl) rfl (by rfl) (by rintro w' ⟨⟨k0, k1, k2, k3, k4⟩, m0⟩; go_simp <;> rfl) ?_
 clear hS0
 have HM := lh (mark_any tn U.drew htn)
 refine wpAnyZ_one 8 (o := r113x8) (by kernel_rfl) rfl fun KK hKK => ?_
 go_simp
 refine HM.o.mono ?_
 rintro e w1 ⟨rfl, hb1⟩
 have HB1 := lh ((below_drew U.heap.size U).trans hb1)
 have hs1 := HB1.o.size
 clear hb1 HM
 refine hKK.o _ _ (fun _ => ⟨⟨(HB1.o.cell (p := ⟨qb, 0, none⟩) hqb).trans HS.o.1.1, (HB1.o.cell (p := ⟨qb, 1, none⟩) hqb).trans HS.o.1.2.1, (HB1.o.cell (p := ⟨qb, 2, none⟩) hqb).trans HS.o.1.2.2.1, (HB1.o.cell (p := ⟨qb, 3, none⟩) hqb).trans HS.o.1.2.2.2.1, (HB1.o.cell (p := ⟨qb, 4, none⟩) hqb).trans HS.o.1.2.2.2.2⟩, (HB1.o.cell (p := ⟨bb, _, none⟩) hbb).trans HS.o.2⟩) ?_
 clear hKK KK
 have HC1 := lh (HC.o w1 HB1.o)
 refine wpAnyZ_one 9 (o := r113x9) (by kernel_rfl) rfl fun KK hKK => ?_
 go_simp
 refine HC1.o.mono ?_
 rintro e w2 ⟨⟨o2, n2, t2, ka2, kn2, kc2, pa2, pn2, pc2, rfl, hr⟩, hb2⟩
 have HB2 := lh (HB1.o.trans (hb2.mono hs1)); have HR1 := lh hr; have HB12 := lh hb2
 have hq1 := bget' HB2.o HQ.o
 obtain ⟨c0, c1, c2, c3, c4⟩ := cells5 hq1
 have fq := free_box hq1
 clear hb2 hr hq1 HC1
 refine hKK.o _ _ (fun _ => ⟨⟨(HB2.o.cell (p := ⟨qb, 0, none⟩) hqb).trans HS.o.1.1, (HB2.o.cell (p := ⟨qb, 1, none⟩) hqb).trans HS.o.1.2.1, (HB2.o.cell (p := ⟨qb, 2, none⟩) hqb).trans HS.o.1.2.2.1, (HB2.o.cell (p := ⟨qb, 3, none⟩) hqb).trans HS.o.1.2.2.2.1, (HB2.o.cell (p := ⟨qb, 4, none⟩) hqb).trans HS.o.1.2.2.2.2⟩, (HB2.o.cell (p := ⟨bb, _, none⟩) hbb).trans HS.o.2⟩) ?_
 clear hKK KK
 refine wpAnyZ_one 10 (o := r113x10) (by kernel_rfl) rfl fun KK hKK => ?_
 go_simp
 refine hKK.o _ _ (fun h => absurd rfl h) ?_
 refine wpAnyZ_done (by kernel_rfl) ?_ _
 exact HK.o _ _ _ _ _ _ _ _ _ _ o2 n2 t2 ka2 kn2 kc2 pa2 pn2 pc2 w1 w2 HB1.o HR1.o HB12.o
end Go.Proofs.YtjpahjfjpkbcnaaGreat
namespace Go.Proofs.YtjpahjfjpkbcnaaGreat
open Go.Proofs Go.RowKit
theorem ownsRow_base0 {w : World} {base base' : Nat} {e : TypeId} {size : Nat} {v : Value} {n : Nat} {xs : List Value} (h : w.ownsRow base e size v n xs) (hb : base' ≤ base) : w.ownsRow base' e size v n xs :=
 ⟨h.1, h.2.imp_right fun ⟨g, cap, cur, h1, h2, h3⟩ => ⟨g, cap, cur, h1, Nat.le_trans hb h2, h3⟩⟩
def RowS (n₀ : Nat) (w : World) (v : Value) (l : List ByteArray) : Prop := (∀ s ∈ l, s.size ≤ maxLen) ∧ w.ownsRow n₀ 9 1 v l.length (l.map Value.string)
theorem RowS.mk' {n₀ base : Nat} {w : World} {v : Value} {n : Nat} {ss : List ByteArray} (h : w.ownsRow base 9 1 v n (ss.map Value.string)) (hn : ss.length = n) (hs : ∀ s ∈ ss, s.size ≤ maxLen) (hb : n₀ ≤ base) : RowS n₀ w v ss := by
 subst hn; exact ⟨hs, ownsRow_base0 h hb⟩
theorem RowS.sl {n₀ : Nat} {w : World} {v : Value} {l : List ByteArray} (h : RowS n₀ w v l) : SlIn (fun b => n₀ ≤ b ∧ b < w.heap.size) v l.length fun b o => StrsAt w l b o := strs_owned h.2 rfl h.1
theorem RowS.below {n₀ : Nat} {w w' : World} {v : Value} {l : List ByteArray} (h : RowS n₀ w v l) (hb : Below w.heap.size w w') : RowS n₀ w' v l := ⟨h.1, ownsRow_of_block h.2 fun g hg => hb.block g (h.2.lt g hg).2⟩
theorem RowS.nil (n₀ : Nat) (w : World) : RowS n₀ w (.slice none 0 0) [] := ⟨by simp, World.ownsRow_nil _ _ _ _⟩
theorem RowS.slice {n₀ : Nat} {w : World} {v : Value} {l : List ByteArray} (h : RowS n₀ w v l) : ∃ (a : Option Addr) (c : Nat), v = .slice a l.length c := slice_of_row h.2
set_option maxHeartbeats 2000000 in
set_option maxRecDepth 10000 in
theorem put_own (n₀ : Nat) (l : List ByteArray) (s : ByteArray) (v : Value) (w : World) (hn0 : n₀ ≤ w.heap.size) (hv0 : RowS n₀ w v l) (hs : s.size ≤ maxLen) (hn : l.length ≤ 1000000) :
  Calls Tryz.prog 107 #[v, .string s] w fun e w' => (∃ v', e = .returned v' ∧ RowS n₀ w' v' (putL s l)) ∧ Below w.heap.size w w' := by
 have hv := hv0.sl
 have HRO := lh hv0
 clear hv0
 rcases hv with ⟨hl, rfl⟩ | ⟨b, o, cap, rfl, hlc, hcm, hbb, hss⟩
 ·obtain rfl : l = [] := List.eq_nil_of_length_eq_zero hl
  clear hl
  go_enter Tryz.func107, Tryz.ntmps107
  go_wp2
  go_loop [5] (fun i => i = .int .i64 0) (fun _ => 0)
  case atStart => rfl
  case round =>
   subst hrel
   go_wp2
   refine reg107n (l := []) (k := 0) rfl rfl rfl rfl (fun _ _ _ _ _ h => h) (fun _ _ => .inl ⟨rfl, rfl, rfl⟩) (fun _ _ => .inl ⟨rfl, rfl, rfl⟩) (by simp) (Nat.le_refl _) rfl ?_
   intro a' w' v g1 g2 g3 hr hb
   have HR := lh hr; have HB := lh hb
   clear hr hb
   obtain ⟨ts, dsf⟩ := a'
   simp at g2
   subst g2
   go_wp2
   refine bodyPost_ret (v := v) (by simp [results, Tryz.results107, go_sem, g3]) rfl ⟨⟨_, rfl, ?_⟩, HB.o⟩
   exact RowS.mk' (ss := [s]) HR.o rfl (by intro x hx; simp at hx; subst hx; exact hs) hn0
 ·have hbn := hbb.2
  have HSS := lh hss
  have hmax : ∀ x ∈ l, x.size ≤ maxLen := fun x hx => by
   obtain ⟨j, hj, rfl⟩ := List.getElem_of_mem hx
   exact (StrsAt.get l b o hss j hj).2
  have HMX := lh hmax
  clear hss hmax
  have hcm' := hcm
  unfold maxLen at hcm
  go_enter Tryz.func107, Tryz.ntmps107
  go_wp2
  go_loop [5] (fun i => ∃ k : Nat, k ≤ l.length ∧ i = .int .i64 k ∧ Hid (idxB s l = k + idxB s (l.drop k))) (fun i => l.length - (intOf i).toNat)
  case atStart => exact ⟨0, Nat.zero_le _, rfl, by unfold Hid; simp⟩
  case round =>
   obtain ⟨k, hk, rfl, HP⟩ := hrel
   have hfin : ∀ (Q : Exit → Act → World → Prop) (a : Act), k ≤ cap → putL s l = l.take k ++ s :: l.drop k → (hsz : a.tmps.size = 44) → (h0 : a.tmps[0]'(by omega) = (.slice (some ⟨b, o, none⟩) l.length cap)) → (h1 : a.tmps[1]'(by omega) = .string s) → (h5 : a.tmps[5]'(by omega) = .int .i64 k) →
     (hQ : ∀ c (d : Nat) v (a : Act) w, Q (.panic c) (a.put (some d) v) w → Q (.panic c) a w) →
     (∀ (a' : Act) (w' : World) (v : Value), a'.tmps.size = 44 → a'.defers = a.defers → a'.tmps[4]? = some v → RowS n₀ w' v (putL s l) → Below w.heap.size w w' → Q .normal a' w') →
     (Code.region 6 ops107 true).wp Tryz.prog Q a w := by
    intro Q a hkc hpl hsz h0 h1 h5 hQ hK
    obtain ⟨ad, had⟩ : ∃ ad : Addr, (if cap = k then some (⟨b, o, none⟩ : Addr) else some ⟨b, o + k, none⟩) = some ad := by split <;> exact ⟨_, rfl⟩
    refine reg107 (l := l) (k := k) (b := b) (o := o) (cap := cap) (ad := ad) hsz h0 h1 h5 hQ (fun w' hb => ?_) (fun w' hb => ?_) hn hk hkc had ?_
    ·refine .inr ⟨⟨b, o, none⟩, cap, rfl, by simp; omega, fun j u hj => ?_, string_one _⟩
     rw [addr_add]
     have h2 := StrsAt.take l k b o (StrsAt.keep hb _ _ _ hbn HSS.o)
     exact StrsAt.cells _ b o h2 j u hj
    ·by_cases hck : cap = k
     ·have hl0 : l.length - k = 0 := by omega
      have hd0 : l.drop k = [] := List.drop_eq_nil_of_le (by omega)
      rw [hl0, hd0]
      exact .inr ⟨ad, _, rfl, rfl, fun j u hj => by simp at hj, fun u hu => by simp at hu⟩
     ·rw [if_neg hck] at had
      cases had
      refine .inr ⟨⟨b, o + k, none⟩, cap - k, rfl, by simp, fun j u hj => ?_, string_one _⟩
      rw [addr_add, Nat.add_assoc]
      have h2 := StrsAt.cells l b o (StrsAt.keep hb _ _ _ hbn HSS.o) (k + j) u
      rw [List.map_drop, List.getElem?_drop] at hj
      exact h2 hj
    ·intro a' w' v g1 g2 g3 hr hb
     refine hK a' w' v g1 g2 g3 ?_ hb
     rw [hpl]
     refine RowS.mk' hr (by simp; omega) ?_ hn0
     intro x hx
     rcases List.mem_append.1 hx with h | h
     ·exact HMX.o x (List.mem_of_mem_take h)
     ·rcases List.mem_cons.1 h with rfl | h
      ·exact hs
      ·exact HMX.o x (List.mem_of_mem_drop h)
   have HFIN := lh hfin
   clear hfin
   by_cases hlt : k < l.length
   ·obtain ⟨hg, hgs⟩ := StrsAt.get l b o HSS.o k hlt
    have hlt' : (k : Int) < (l.length : Int) := by omega
    have hd := idxB_drop s l k hlt
    cases hx : ltB l[k] s with
    | true =>
     rw [hx] at hd
     have hx' : Op.bytesLess l[k].toList s.toList = true := hx
     have HD := lh hd
     clear hd hx
     go_wp2
     go_round
     case rel => exact ⟨k + 1, by omega, by go_num, by unfold Hid; rw [HP.o, HD.o, if_pos rfl]; omega⟩
     case measure => simp [intOf]; omega
    | false =>
     rw [hx] at hd
     have hx' : Op.bytesLess l[k].toList s.toList = false := hx
     have hik : idxB s l = k := by rw [HP.o, hd]; rfl
     have hpl := putL_at s l k hik
     rw [dif_pos hlt] at hpl
     cases heq : l[k].toList == s.toList with
     | true =>
      rw [heq, if_pos rfl] at hpl
      have HPL := lh hpl
      clear hd hx hik hpl
      go_wp2
      go_ret
      refine ⟨⟨_, rfl, ?_⟩, Below.refl _ _⟩
      rw [HPL.o]
      exact HRO.o
     | false =>
      rw [heq] at hpl
      have HPL := lh hpl
      clear hd hx hik hpl
      go_wp2
      refine HFIN.o _ _ (by omega) HPL.o rfl rfl rfl rfl (fun _ _ _ _ _ h => h) ?_
      intro a' w' v g1 g2 g3 hr hb
      have HR := lh hr; have HB := lh hb
      clear hr hb
      obtain ⟨ts, dsf⟩ := a'
      simp at g2
      subst g2
      go_wp2
      exact bodyPost_ret (v := v) (by simp [results, Tryz.results107, go_sem, g3]) rfl ⟨⟨_, rfl, HR.o⟩, HB.o⟩
   ·have hlt' : ¬ ((k : Int) < (l.length : Int)) := by omega
    have hik : idxB s l = k := by rw [HP.o, List.drop_eq_nil_of_le (by omega)]; rfl
    have hpl := putL_at s l k hik
    rw [dif_neg hlt] at hpl
    have HPL := lh hpl
    clear hik hpl
    go_wp2
    refine HFIN.o _ _ (by omega) HPL.o rfl rfl rfl rfl (fun _ _ _ _ _ h => h) ?_
    intro a' w' v g1 g2 g3 hr hb
    have HR := lh hr; have HB := lh hb
    clear hr hb
    obtain ⟨ts, dsf⟩ := a'
    simp at g2
    subst g2
    go_wp2
    exact bodyPost_ret (v := v) (by simp [results, Tryz.results107, go_sem, g3]) rfl ⟨⟨_, rfl, HR.o⟩, HB.o⟩
set_option maxHeartbeats 4000000 in
set_option maxRecDepth 100000 in
theorem refFree_own (T : Tm) : ∀ (v : Value) (w : World), TmAt w.heap.size w T v → okF T → (partsM 1 T).length ≤ 100000 →
  Calls Tryz.prog 48 #[v] w fun e w' => (∃ v', e = .returned v' ∧ RowS w.heap.size w' v' (rfree T)) ∧ Below w.heap.size w w' := by
 induction hT : SizeOf.sizeOf T using Nat.strongRecOn generalizing T with
 | _ m ih =>
 subst hT
 intro v w hv hok hlen
 have HIH := lh ih; clear ih
 cases T with
 | mk op n text kids pats =>
 have hv' := hv
 unfold TmAt at hv
 obtain ⟨kv, pv, rfl, htx, hk, hp⟩ := hv
 obtain ⟨a, cap, rfl, hcap, hlc, hka⟩ := hk.split
 obtain ⟨a', cap', rfl, -⟩ := hp.split
 have hok' := hok
 unfold okF at hok
 have hbx := heap_alloc_new w (.cells #[.int .i64 op, .int .i64 n, .string text, .slice a kids.length cap, .slice a' pats.length cap'] 32)
 have hb0 := (Below.refl w.heap.size w).alloc (Nat.le_refl _) (.cells #[.int .i64 op, .int .i64 n, .string text, .slice a kids.length cap, .slice a' pats.length cap'] 32)
 have hszA : (w.alloc (.cells #[.int .i64 op, .int .i64 n, .string text, .slice a kids.length cap, .slice a' pats.length cap'] 32)).heap.size = w.heap.size + 1 := by simp
 unfold maxLen at hcap
 by_cases h4 : op = 4
 ·have hr : rfree (.mk op n text kids pats) = [text] := by conv => lhs; unfold rfree; rw [if_pos h4]
  have hend : (∃ v', Ending.returned (.slice (some ⟨w.heap.size + 1, 0, none⟩) 1 1) = Ending.returned v' ∧ RowS w.heap.size ((w.alloc (.cells #[.int .i64 op, .int .i64 n, .string text, .slice a kids.length cap, .slice a' pats.length cap'] 32)).alloc (.cells #[.string text] 9)) v' [text]) := by
   have hl := World.ownsRow_lit (base := w.heap.size) (e := 9) (size := 1) (w.alloc (.cells #[.int .i64 op, .int .i64 n, .string text, .slice a kids.length cap, .slice a' pats.length cap'] 32)) #[.string text] 1 (by rw [hszA]; omega) (by unfold maxLen; omega) rfl
   rw [hszA] at hl
   exact ⟨_, rfl, by intro s hs; simp at hs; subst hs; exact htx, hl⟩
  rw [hr]
  have HEND := lh hend; have HB := lh (hb0.alloc hb0.size (.cells #[.string text] 9))
  subst h4
  clear hk hp hka hbx hb0 hr HIH hend hok hok' hv' hlen hszA
  go_enter Tryz.func48, Tryz.ntmps48
  go_wp2
  go_ret
  exact ⟨HEND.o, HB.o⟩
 have hr : rfree (.mk op n text kids pats) = rfreeK (boundL (.mk op n text kids pats)) kids 0 [] := by conv => lhs; unfold rfree; rw [if_neg h4]
 have hln : (partssM 2 kids).length ≤ 100000 := by
  unfold partsM at hlen
  rw [List.length_cons] at hlen
  have e : (1 : Int) + 1 = 2 := rfl
  rw [e] at hlen
  omega
 have HR := lh hr; have HOK := lh hok; have HLN := lh hln; have HV := lh hv'
 have HKA := lh hka; have HBX := lh hbx; have HB0 := lh hb0; have HSZ := lh hszA
 clear hk hp hka hbx hb0 hr hok hok' hv' hlen hszA hln
 have h4' : (op == 4) = false := by simpa using h4
 go_enter Tryz.func48, Tryz.ntmps48
 go_wp2
 generalize (w.alloc (.cells #[.int .i64 op, .int .i64 n, .string text, .slice a kids.length cap, .slice a' pats.length cap'] 32)) = W at *
 go_loopw [3, 4] (fun vo i wr => ∃ (k : Nat) (out : List ByteArray), k ≤ kids.length ∧ i = .int .i64 k ∧ RowS w.heap.size wr vo out ∧ Hid (rfree (.mk op n text kids pats) = rfreeK (boundL (.mk op n text kids pats)) (kids.drop k) k out) ∧ out.length + (partssM 2 (kids.drop k)).length ≤ 100000 ∧ Below (w.heap.size + 1) W wr) (fun _ i _ => kids.length - (intOf i).toNat)
 case atStart => exact ⟨0, [], Nat.zero_le _, rfl, RowS.nil _ _, HR.o, by simpa using HLN.o, Below.refl _ _⟩
 case round =>
  obtain ⟨k, out, hk, rfl, hvo, HP, hol, hB⟩ := hrel
  have hbx := bget hB HBX.o (by omega)
  have hbw : Below w.heap.size w wr := HB0.o.trans (hB.mono (by omega))
  have hsz : w.heap.size + 1 ≤ wr.heap.size := by have := hB.size; have := HSZ.out; omega
  obtain ⟨oa, oc, rfl⟩ := hvo.slice
  obtain ⟨c0, c1, c2, c3, c4⟩ := cells5 hbx
  by_cases hlt : k < kids.length
  ·have hlt' : (k : Int) < (kids.length : Int) := by omega
   obtain ⟨b, o, rfl, hbn, hps⟩ := HKA.o (by omega)
   obtain ⟨e0, e1, e2, e3, e4, g0, g1, g2, g3, g4, ht⟩ := TmsAt.get kids b o hps k hlt
   obtain ⟨oo, nn, tt, ka, kn, kc, pa, pn, pc, rfl, rfl, rfl, rfl, rfl⟩ := ht.shape
   have q0 := (hbw.cell (p := ⟨b, _, none⟩) hbn).trans g0
   have q1 := (hbw.cell (p := ⟨b, _, none⟩) hbn).trans g1
   have q2 := (hbw.cell (p := ⟨b, _, none⟩) hbn).trans g2
   have q3 := (hbw.cell (p := ⟨b, _, none⟩) hbn).trans g3
   have q4 := (hbw.cell (p := ⟨b, _, none⟩) hbn).trans g4
   have hbd : Below w.heap.size w wr.drew := hbw.trans (below_drew _ _)
   have hpd := partssM_drop kids k 2 hlt
   have hd12 : (partsM 1 kids[k]).length = (partsM 2 kids[k]).length := partsM_len _ _ _
   have hcl := HIH.o _ (kid_lt k hlt) kids[k] rfl _ wr.drew (TmAt.keep hbd hbd.size _ _ ht) (okFs_get HOK.o.2.2.2 k hlt) (by omega)
   have hc1 : Calls Tryz.prog 48 #[.agg #[.int .i64 oo, .int .i64 nn, .string tt, .slice ka kn kc, .slice pa pn pc]] wr.drew fun e w' => (∃ v1, e = .returned v1 ∧ SlIn (fun x => x < w'.heap.size) v1 (rfree kids[k]).length fun b o => StrsAt w' (rfree kids[k]) b o) ∧ Below wr.heap.size wr w' := hcl.mono fun e w' ⟨h1, h2⟩ => ⟨h1.imp fun v h => ⟨h.1, h.2.sl.mono (fun b h => h.2) fun _ _ _ h => h⟩, (below_drew _ _).trans h2⟩
   have hc2 : ∀ w1, Below wr.heap.size wr w1 → Calls Tryz.prog 106 #[.agg #[.int .i64 (Tm.mk op n text kids pats).op, .int .i64 (Tm.mk op n text kids pats).n, .string (Tm.mk op n text kids pats).text, .slice (some ⟨b, o, none⟩) (Tm.mk op n text kids pats).kids.length cap, .slice a' (Tm.mk op n text kids pats).pats.length cap'], .int .i64 k] w1 fun e w' => (∃ v2, e = .returned v2 ∧ SlIn (Fresh w1 w') v2 (boundL (.mk op n text kids pats) k).length fun b o => StrsAt w' (boundL (.mk op n text kids pats) k) b o) ∧ Below w1.heap.size w1 w' := fun w1 h1 => by
    have hw1 : Below w.heap.size w w1 := hbw.trans (h1.mono hbw.size)
    exact Binds_any (.mk op n text kids pats) k _ w1 (TmAt.keep hw1 hw1.size _ _ HV.o) (by have := HOK.o.2.1; omega) (fun h h0 => by have h1 : kids.length ≤ pats.length + 1 := HOK.o.1 h; show k - 1 < pats.length; omega) (fun p hp => HOK.o.2.2.1 p hp)
   have HC1 := lh hc1; have HC2 := lh hc2; have HB := lh hB; have HVO := lh hvo; have HBW := lh hbw; have HBXR := lh hbx
   clear hcl hc1 hc2 hB hvo hbw hbd g0 g1 g2 g3 g4 ht hps hbx
   go_upto_region 7 with fail
   refine reg48 (T := .mk op n text kids pats) (qb := w.heap.size) (b := b) (o := o) (k := k) (R1 := fun v1 w' => SlIn (fun x => x < w'.heap.size) v1 (rfree kids[k]).length fun b o => StrsAt w' (rfree kids[k]) b o) (R2 := fun v2 w1 w' => SlIn (Fresh w1 w') v2 (boundL (.mk op n text kids pats) k).length fun b o => StrsAt w' (boundL (.mk op n text kids pats) k) b o) rfl rfl rfl (fun _ _ _ _ _ h => h) ⟨⟨c0, c1, c2, c3, c4⟩, ⟨q0, q1, q2, q3, q4⟩⟩ (by omega) (by omega) hlt HC1.o HC2.o ?_
   intro u21 u22 u23 u24 u25 u27 u28 v1 v2 w1 w2 hr1 hr2 hb1 hb2
   simp only [List.setIfInBounds_toArray, List.set_cons_zero, List.set_cons_succ]
   have hv1 : SlIn (fun x => x < w2.heap.size) v1 (rfree kids[k]).length fun b o => StrsAt w2 (rfree kids[k]) b o := hr1.mono (fun b h => Nat.lt_of_lt_of_le h hb2.size) fun b o h hs => StrsAt.keep hb2 _ _ _ h hs
   have hv2 : SlIn (fun x => x < w2.heap.size) v2 (boundL (.mk op n text kids pats) k).length fun b o => StrsAt w2 (boundL (.mk op n text kids pats) k) b o := hr2.mono (fun b h => h.2) fun _ _ _ h => h
   have hb12 : Below wr.heap.size wr w2 := hb1.trans (hb2.mono hb1.size)
   have hvo2 : RowS w.heap.size w2 (.slice oa out.length oc) out := HVO.o.below hb12
   have hbW2 : Below (w.heap.size + 1) W w2 := HB.o.trans (hb12.mono hsz)
   have hsz2 := hbW2.size
   have hlx := rfree_len kids[k] 2
   have hnx : rfree (.mk op n text kids pats) = rfreeK (boundL (.mk op n text kids pats)) (kids.drop (k + 1)) (k + 1) (addL (boundL (.mk op n text kids pats) k) (rfree kids[k]) out) := HP.o.trans (rfreeK_drop _ _ _ _ hlt)
   have HNX := lh hnx
   generalize rfree kids[k] = xs at *
   generalize boundL (.mk op n text kids pats) k = bs at *
   obtain ⟨xa, xc, rfl⟩ := hv1.split
   obtain ⟨ba, bc, rfl⟩ := hv2.split
   have HV1 := lh hv1; have HV2 := lh hv2; have HVO2 := lh hvo2; have HBW2 := lh hbW2
   clear hv1 hv2 hvo2 hbW2 hr1 hr2 hb1 hb2 hb12 hnx c0 c1 c2 c3 c4 q0 q1 q2 q3 q4 HC1 HC2
   go_wp2
   generalize wr = wc at *
   go_loopw [3, 7] (fun vo i wr => ∃ (j : Nat) (out' : List ByteArray), j ≤ xs.length ∧ i = .int .i64 j ∧ RowS w.heap.size wr vo out' ∧ Hid (addL bs xs out = addL bs (xs.drop j) out') ∧ out'.length ≤ out.length + j ∧ Below w2.heap.size w2 wr) (fun _ i _ => xs.length - (intOf i).toNat)
   case atStart => exact ⟨0, out, Nat.zero_le _, rfl, HVO2.o, rfl, Nat.le_refl _, Below.refl _ _⟩
   case round =>
    obtain ⟨j, out', hj, rfl, hvj, HPj, holj, hBj⟩ := hrel
    obtain ⟨ja, jc, rfl⟩ := hvj.slice
    have hsj := hBj.size
    by_cases hltj : j < xs.length
    ·have hltj' : (j : Int) < (xs.length : Int) := by omega
     have h1 := HV1.o
     rcases h1 with ⟨h0, -⟩ | ⟨xb, xo, xcap, hx1, hx2, hx3, hx4, hx5⟩
     ·omega
     cases hx1
     obtain ⟨hg, hgs⟩ := StrsAt.get xs xb xo hx5 j hltj
     have hgj := (hBj.cell (p := ⟨xb, xo + j, none⟩) hx4).trans hg
     have hbs : SsAt wr.heap.size wr bs (.slice ba bs.length bc) := (HV2.o.mono (B' := fun b => b < w2.heap.size) (R' := fun b o => StrsAt wr bs b o) (fun b h => h) fun b o h hs => StrsAt.keep hBj _ _ _ h hs).to (fun b h => Nat.lt_of_lt_of_le h hsj) fun _ _ h => h
     have hcl := Has_any bs _ xs[j] wr hbs
     have hd := addL_drop bs xs out' j hltj
     cases hx : hasB bs xs[j] with
     | true =>
      rw [hx] at hcl hd
      have HC := lh hcl; have HD := lh hd; have HVJ := lh hvj; have HBJ := lh hBj
      clear hcl hd hvj hBj hx hbs hg hx5
      go_wp2_with fail
      refine HC.o.mono ?_
      rintro e w3 ⟨rfl, hb3⟩
      have hvj3 : RowS w.heap.size w3 (.slice ja out'.length jc) out' := HVJ.o.below hb3
      have HVJ3 := lh hvj3; have HB3 := lh (HBJ.o.trans (hb3.mono hsj))
      clear hvj3 hb3 HC hgj
      go_wp2
      go_roundw
      case rel => exact ⟨j + 1, out', by omega, by go_num, HVJ3.o, by unfold Hid; rw [HPj.o, HD.o]; simp, by omega, HB3.o⟩
      case measure => simp [intOf]; omega
     | false =>
      rw [hx] at hcl hd
      have HC := lh hcl; have HD := lh hd; have HVJ := lh hvj; have HBJ := lh hBj
      have HX5 := lh hx5
      clear hcl hd hvj hBj hx hbs hg hx5
      go_wp2_with fail
      refine HC.o.mono ?_
      rintro e w3 ⟨rfl, hb3⟩
      have hvj3 : RowS w.heap.size w3 (.slice ja out'.length jc) out' := HVJ.o.below hb3
      have hB3 : Below w2.heap.size w2 w3 := HBJ.o.trans (hb3.mono hsj)
      have hgj3 := (hB3.cell (p := ⟨xb, xo + j, none⟩) hx4).trans (StrsAt.get xs xb xo HX5.o j hltj).1
      have hcp := put_own w.heap.size out' xs[j] _ w3 (by have := HBW2.o.size; have := HSZ.out; have := hB3.size; omega) hvj3 hgs (by omega)
      have hpl := putL_len xs[j] out'
      have HCP := lh hcp; have HB3 := lh hB3
      have hs3 := hB3.size
      clear hvj3 hb3 HC hgj hcp hB3
      go_wp2_with fail
      refine HCP.o.mono ?_
      rintro e w4 ⟨⟨v4, rfl, hv4⟩, hb4⟩
      have HV4 := lh hv4; have HB4 := lh (HB3.o.trans (hb4.mono hs3))
      clear hv4 hb4 HCP hgj3
      go_wp2
      go_roundw
      case rel => exact ⟨j + 1, putL xs[j] out', by omega, by go_num, HV4.o, by unfold Hid; rw [HPj.o, HD.o]; rfl, by omega, HB4.o⟩
      case measure => simp [intOf]; omega
    ·have hltj' : ¬ ((j : Int) < (xs.length : Int)) := by omega
     have hend : addL bs xs out = out' := by
      rw [HPj.o, List.drop_eq_nil_of_le (by omega)]
      rfl
     have HEND := lh hend; have HVJ := lh hvj
     have HB4 := lh (HBW2.o.trans (hBj.mono (by have := HSZ.out; omega)))
     clear hend hvj hBj
     go_wp2
     go_roundw
     case rel => exact ⟨k + 1, out', by omega, by go_num, HVJ.o, by unfold Hid; rw [HNX.o, HEND.o], by omega, HB4.o⟩
     case measure => simp [intOf]; omega
  ·have hlt' : ¬ ((k : Int) < (kids.length : Int)) := by omega
   have hend : rfree (.mk op n text kids pats) = out := by
    rw [HP.o, List.drop_eq_nil_of_le (by omega)]
    unfold rfreeK; rfl
   have HEND := lh hend; have HBW := lh hbw; have HVO := lh hvo
   clear hend hbw hbx hvo
   go_wp2
   go_ret
   rw [HEND.o]
   exact ⟨⟨_, rfl, HVO.o⟩, HBW.o⟩
theorem ownA_grow {B : Nat → Prop} {U w w' : World} {vo v' : Value} {X : Obj} (hBb : ∀ b, B b → b < w.heap.size ∧ vo.ownBlock ≠ some b)
  (hgr : (w.alloc X).grownBy w' vo.ownBlock) (hat : v'.ownBlock = vo.ownBlock ∨ v'.ownBlock = some (w.alloc X).heap.size) :
  (∀ b, OwnX B U w vo b → w'.heap[b]? = w.heap[b]?) ∧ (∀ b, OwnX B U w vo b → OwnX B U w' v' b) ∧ Kept (fun k => vo.ownBlock = some k) w w' := by
 have hk : Kept (fun k => vo.ownBlock = some k) w w' := kept_grown hgr fun k h => h
 have hs := hk.size
 have blk : ∀ b, OwnX B U w vo b → b < w.heap.size ∧ ¬ vo.ownBlock = some b := fun b h => by
  rcases h with h | h
  ·exact hBb b h
  ·exact ⟨h.2.1, h.2.2⟩
 refine ⟨fun b h => hk.block b (blk b h).1 (blk b h).2, fun b h => ?_, hk⟩
 rcases h with h | h
 ·exact .inl h
 ·refine .inr ⟨h.1, by have := h.2.1; omega, fun e => ?_⟩
  rcases hat with he | he
  ·rw [he] at e; exact h.2.2 e
  ·rw [he] at e
   have h2 := h.2.1
   simp at e
   omega
structure AnIn (B : Nat → Prop) (W : World) (n0 m0 : Nat) (vt0 : Value) (bl : List ByteArray) (bv : Value) (T' : Tm) (tk : List ByteArray) (vt : Value) (ka pa : Option Addr) (kc pc : Nat) (wi : World) : Prop where
 row : RowS m0 wi vt tk
 ob : vt.ownBlock = vt0.ownBlock ∨ ∃ g, vt.ownBlock = some g ∧ W.heap.size ≤ g
 box : wi.heap[n0]? = some (.cells #[.int .i64 T'.op, .int .i64 T'.n, .string T'.text, .slice ka T'.kids.length kc, .slice pa T'.pats.length pc] 32 (0, 0))
 tm : TmX (OwnX B W wi vt) wi T' (.agg #[.int .i64 T'.op, .int .i64 T'.n, .string T'.text, .slice ka T'.kids.length kc, .slice pa T'.pats.length pc])
 kp : Kept (fun k => k = n0 ∨ vt0.ownBlock = some k) W wi
 bs : SlIn (fun b => W.heap.size ≤ b ∧ b < wi.heap.size ∧ vt.ownBlock ≠ some b) bv bl.length fun b o => StrsAt wi bl b o
structure AnB (B : Nat → Prop) (W : World) (n0 : Nat) (vt0 : Value) : Prop where
 lt : ∀ b, B b → b < n0
 own : ∀ b, B b → vt0.ownBlock ≠ some b
 nW : n0 < W.heap.size
 v0 : ∀ b, vt0.ownBlock = some b → b < n0
section
variable {B : Nat → Prop} {W : World} {n0 m0 : Nat} {vt0 : Value} {bl : List ByteArray} {bv : Value} {T' : Tm} {tk : List ByteArray} {vt : Value} {ka pa : Option Addr} {kc pc : Nat} {wi : World}
theorem AnIn.own (h : AnIn B W n0 m0 vt0 bl bv T' tk vt ka pa kc pc wi) (hB : AnB B W n0 vt0) (b : Nat) (hb : vt.ownBlock = some b) : ¬ B b ∧ b ≠ n0 ∧ b < wi.heap.size := by
 have hn := hB.nW
 refine ⟨fun h' => ?_, ?_, (h.row.2.lt b hb).2⟩
 ·rcases h.ob with e | ⟨g, e, hg⟩
  ·rw [e] at hb; exact hB.own b h' hb
  ·rw [e] at hb; cases hb; have := hB.lt b h'; omega
 ·rcases h.ob with e | ⟨g, e, hg⟩
  ·rw [e] at hb; have := hB.v0 b hb; omega
  ·rw [e] at hb; cases hb; omega
theorem AnIn.lt (h : AnIn B W n0 m0 vt0 bl bv T' tk vt ka pa kc pc wi) (hB : AnB B W n0 vt0) (b : Nat) (hb : OwnX B W wi vt b) : b < wi.heap.size ∧ b ≠ n0 ∧ vt.ownBlock ≠ some b := by
 have hs := h.kp.size
 have hn := hB.nW
 rcases hb with hb | hb
 ·have := hB.lt b hb
  exact ⟨by omega, by omega, fun e => (h.own hB b e).1 hb⟩
 ·have := hb.1
  exact ⟨hb.2.1, by omega, hb.2.2⟩
theorem AnIn.at (h : AnIn B W n0 m0 vt0 bl bv T' tk vt ka pa kc pc wi) (hB : AnB B W n0 vt0) : TmAt wi.heap.size wi T' (.agg #[.int .i64 T'.op, .int .i64 T'.n, .string T'.text, .slice ka T'.kids.length kc, .slice pa T'.pats.length pc]) :=
 TmX.to (fun b hb => (h.lt hB b hb).1) _ _ h.tm
theorem AnIn.below (h : AnIn B W n0 m0 vt0 bl bv T' tk vt ka pa kc pc wi) (hB : AnB B W n0 vt0) {w1 : World} (hb : Below wi.heap.size wi w1) : AnIn B W n0 m0 vt0 bl bv T' tk vt ka pa kc pc w1 := by
 have hs := hb.size
 refine ⟨h.row.below hb, h.ob, bget' hb h.box, TmX.keep (fun b hb' => hb.block b (h.lt hB b hb').1) (fun b hb' => ?_) _ _ h.tm, h.kp.trans (Kept.of_below hb), h.bs.mono (fun b hb' => ⟨hb'.1, by have := hb'.2.1; omega, hb'.2.2⟩) fun b o hb' hs' => StrsAt.keep hb _ _ _ hb'.2.1 hs'⟩
 exact hb'.imp_right fun h' => ⟨h'.1, by have := h'.2.1; omega, h'.2.2⟩
theorem AnIn.bind (h : AnIn B W n0 m0 vt0 bl bv T' tk vt ka pa kc pc wi) (hB : AnB B W n0 vt0) {w1 : World} (hb : Below wi.heap.size wi w1) {bl2 : List ByteArray} {bv2 : Value} (hv : SlIn (Fresh wi w1) bv2 bl2.length fun b o => StrsAt w1 bl2 b o) : AnIn B W n0 m0 vt0 bl2 bv2 T' tk vt ka pa kc pc w1 := by
 obtain ⟨a1, a2, a3, a4, a5, -⟩ := h.below hB hb
 have hs := h.kp.size
 exact ⟨a1, a2, a3, a4, a5, hv.mono (fun b hb' => ⟨by have := hb'.1; omega, hb'.2, fun e => by have := (h.row.2.lt b e).2; have := hb'.1; omega⟩) fun _ _ _ h => h⟩
theorem AnIn.nil (h : AnIn B W n0 m0 vt0 bl bv T' tk vt ka pa kc pc wi) : AnIn B W n0 m0 vt0 [] (.slice none 0 0) T' tk vt ka pa kc pc wi := ⟨h.row, h.ob, h.box, h.tm, h.kp, .inl ⟨rfl, rfl⟩⟩
theorem AnIn.grow (h : AnIn B W n0 m0 vt0 bl bv T' tk vt ka pa kc pc wi) (hB : AnB B W n0 vt0) {X : Obj} {w' : World} {vt' : Value} {o : ByteArray} (ho : o.size ≤ maxLen) (hrow : w'.ownsRow m0 9 1 vt' (tk.length + 1) (tk.map Value.string ++ [.string o]))
  (hgr : (wi.alloc X).grownBy w' vt.ownBlock) (hat : vt'.ownBlock = vt.ownBlock ∨ vt'.ownBlock = some (wi.alloc X).heap.size) : AnIn B W n0 m0 vt0 bl bv T' (tk ++ [o]) vt' ka pa kc pc w' := by
 have hs := h.kp.size
 have hn := hB.nW
 obtain ⟨s1, s2, s3⟩ := ownA_grow (B := B) (U := W) (fun b hb => ⟨by have := hB.lt b hb; omega, fun e => (h.own hB b e).1 hb⟩) hgr hat
 have hs3 := s3.size
 refine ⟨⟨fun s hs' => ?_, ?_⟩, ?_, (s3.block n0 (by omega) (fun e => (h.own hB n0 e).2.1 rfl)).trans h.box, TmX.keep s1 s2 _ _ h.tm, ?_, h.bs.mono (fun b hb => ⟨hb.1, by have := hb.2.1; omega, fun e => ?_⟩) fun b o' hb hs' => StrsAt.same (s3.block b hb.2.1 hb.2.2) _ _ hs'⟩
 ·rcases List.mem_append.1 hs' with h' | h'
  ·exact h.row.1 s h'
  ·rw [List.mem_singleton] at h'; subst h'; exact ho
 ·rw [List.length_append, List.map_append]; exact hrow
 ·rcases hat with he | he
  ·rw [he]; exact h.ob
  ·exact .inr ⟨_, he, by simp; omega⟩
 ·refine ⟨s3.os.trans h.kp.os, s3.tape.trans h.kp.tape, s3.output.trans h.kp.output, Nat.le_trans hs hs3, fun k hk hne => (s3.block k (by omega) (fun e => ?_)).trans (h.kp.block k hk hne)⟩
  rcases h.ob with e' | ⟨g, e', hg⟩
  ·rw [e'] at e; exact hne (.inr e)
  ·rw [e'] at e; cases e; omega
 ·rcases hat with he | he
  ·rw [he] at e; exact hb.2.2 e
  ·rw [he] at e
   have h2 := hb.2.1
   simp at e
   omega
theorem AnIn.set (h : AnIn B W n0 m0 vt0 bl bv T' tk vt ka pa kc pc wi) (hB : AnB B W n0 vt0) {w1 : World} (hb : Below wi.heap.size wi w1) {T2 : Tm} {ka2 pa2 : Option Addr} {kc2 pc2 : Nat}
  (hT : TmX (fun b => OwnX B W wi vt b ∨ Fresh wi w1 b) w1 T2 (.agg #[.int .i64 T2.op, .int .i64 T2.n, .string T2.text, .slice ka2 T2.kids.length kc2, .slice pa2 T2.pats.length pc2])) :
  AnIn B W n0 m0 vt0 bl bv T2 tk vt ka2 pa2 kc2 pc2 (((((w1.setCell ⟨n0, 0, none⟩ (.int .i64 T2.op)).setCell ⟨n0, 1, none⟩ (.int .i64 T2.n)).setCell ⟨n0, 2, none⟩ (.string T2.text)).setCell ⟨n0, 3, none⟩ (.slice ka2 T2.kids.length kc2)).setCell ⟨n0, 4, none⟩ (.slice pa2 T2.pats.length pc2)) := by
 have h1 := h.below hB hb
 have hs := h.kp.size
 have hs1 := hb.size
 have hn := hB.nW
 have hkp := kept5 w1 n0 (.int .i64 T2.op) (.int .i64 T2.n) (.string T2.text) (.slice ka2 T2.kids.length kc2) (.slice pa2 T2.pats.length pc2)
 have hbx := box_set5 h1.box (.int .i64 T2.op) (.int .i64 T2.n) (.string T2.text) (.slice ka2 T2.kids.length kc2) (.slice pa2 T2.pats.length pc2)
 generalize (((((w1.setCell ⟨n0, 0, none⟩ (.int .i64 T2.op)).setCell ⟨n0, 1, none⟩ (.int .i64 T2.n)).setCell ⟨n0, 2, none⟩ (.string T2.text)).setCell ⟨n0, 3, none⟩ (.slice ka2 T2.kids.length kc2)).setCell ⟨n0, 4, none⟩ (.slice pa2 T2.pats.length pc2)) = w2 at *
 have hs2 := hkp.size
 have key : ∀ b, (OwnX B W wi vt b ∨ Fresh wi w1 b) → b < w1.heap.size ∧ b ≠ n0 ∧ OwnX B W w2 vt b := fun b hb' => by
  rcases hb' with h' | h'
  ·have := h.lt hB b h'
   exact ⟨by omega, this.2.1, h'.imp_right fun h'' => ⟨h''.1, by have := h''.2.1; omega, h''.2.2⟩⟩
  ·have h2 := h'.1; have h3 := h'.2
   exact ⟨h3, by omega, .inr ⟨by omega, by omega, fun e => by have := (h.row.2.lt b e).2; omega⟩⟩
 refine ⟨⟨h1.row.1, ownsRow_of_block h1.row.2 fun g hg => hkp.block g (h1.row.2.lt g hg).2 (h1.own hB g hg).2.1⟩, h1.ob, hbx, TmX.keep (fun b hb' => hkp.block b (key b hb').1 (key b hb').2.1) (fun b hb' => (key b hb').2.2) _ _ hT, h1.kp.trans (hkp.mono fun k hk => .inl hk), h1.bs.mono (fun b hb' => ⟨hb'.1, by have := hb'.2.1; omega, hb'.2.2⟩) fun b o hb' hs' => StrsAt.same (hkp.block b hb'.2.1 (by have := hb'.1; omega)) _ _ hs'⟩
end
end Go.Proofs.YtjpahjfjpkbcnaaGreat
namespace Go.Proofs.YtjpahjfjpkbcnaaGreat
open Go.Proofs Go.RowKit
theorem run_append_zero {P : Program} (w : World) (t ty e : TypeId) (i : TypeInfo) (ht : P.underlying t = some (.slice e)) (hi : P.info? e = some i) (a : Option Addr) (c : Nat) :
  (Builtin.append_ #[t, t] ty #[.slice none 0 0, .slice a 0 c]).run P w = .ok (.slice none 0 0) w := by
 cases a <;> simp [Builtin.append_, run_underlying ht, sizeOf, typeInfo, hi, Builtin.lenOf, Builtin.firstCells, loadCells, loadCellsFrom]
theorem wpList_append_zero {P : Program} (w : World) {ops : Array Oper} {rest : List Oper} {o : Oper} {a : Act} {Q : Exit → Act → World → Prop}
  (hg : o.guard = none) (s x : Operand) (t : TypeId) (hop : o.op = Op.call { callee := Callee.builtin Builtin.append, args := #[s, x], argTypes := #[t, t] })
  (e : TypeId) (i : TypeInfo) (h1 : P.underlying t = some (.slice e)) (h2 : P.info? e = some i)
  (ad : Option Addr) (c : Nat) (hs : a.eval s = .slice none 0 0) (hx : a.eval x = .slice ad 0 c)
  (hK : wpList P ops Q rest (a.put o.dst (.slice none 0 0)) w) : wpList P ops Q (o :: rest) a w := by
 refine wpList_plain hg fun K hK' => ?_
 have hrun := run_append_zero (P := P) w t o.type e i h1 h2 ad c
 unfold Oper.wp execOp
 simp only [hop, resolve, invoke, builtin, Sem.run_bind, Sem.run_pure, Result.andThen_ok, List.map_toArray, List.map_cons, List.map_nil, hs, hx, hrun]
 exact hK' _ _ hK
theorem anK_take (rec : Tm → List ByteArray → Tm × List ByteArray) (ks : List Tm) (tk : List ByteArray) (k : Nat) (h : k < ks.length) : anK rec (ks.take (k + 1)) tk = ((anK rec (ks.take k) tk).1 ++ [(rec ks[k] (anK rec (ks.take k) tk).2).1], (rec ks[k] (anK rec (ks.take k) tk).2).2) := by
 rw [List.take_succ_eq_append_getElem h, anK_snoc]
def anL (rec : Tm → List ByteArray → Tm × List ByteArray) (ks : List Tm) (tk : List ByteArray) (k : Nat) : List Tm := (anK rec (ks.take k) tk).1 ++ ks.drop k
theorem anL_len (rec : Tm → List ByteArray → Tm × List ByteArray) (ks : List Tm) (tk : List ByteArray) (k : Nat) (h : k ≤ ks.length) : (anL rec ks tk k).length = ks.length := by
 unfold anL
 rw [List.length_append, anK_len, List.length_take, List.length_drop]
 omega
theorem anL_get (rec : Tm → List ByteArray → Tm × List ByteArray) (ks : List Tm) (tk : List ByteArray) (k : Nat) (h : k < ks.length) (h' : k < (anL rec ks tk k).length) : (anL rec ks tk k)[k] = ks[k] := by
 have h1 : (anK rec (ks.take k) tk).1.length = k := by rw [anK_len, List.length_take]; omega
 have e : (anL rec ks tk k)[k]? = some ks[k] := by
  unfold anL
  rw [List.getElem?_append_right (by omega), h1, Nat.sub_self, List.getElem?_drop, Nat.add_zero, List.getElem?_eq_getElem h]
 rw [List.getElem?_eq_getElem h'] at e
 exact Option.some.inj e
theorem anL_set (rec : Tm → List ByteArray → Tm × List ByteArray) (ks : List Tm) (tk : List ByteArray) (k : Nat) (h : k < ks.length) : (anL rec ks tk k).set k (rec ks[k] (anK rec (ks.take k) tk).2).1 = anL rec ks tk (k + 1) := by
 have h1 : (anK rec (ks.take k) tk).1.length = k := by rw [anK_len, List.length_take]; omega
 unfold anL
 rw [anK_take rec ks tk k h, List.set_append_right _ _ (by omega), h1, Nat.sub_self, List.append_assoc]
 congr 1
 rw [List.drop_eq_getElem_cons h]
 rfl
theorem anL_zero (rec : Tm → List ByteArray → Tm × List ByteArray) (ks : List Tm) (tk : List ByteArray) : anL rec ks tk 0 = ks := by
 unfold anL; rw [List.take_zero]; rfl
theorem anL_end (rec : Tm → List ByteArray → Tm × List ByteArray) (ks : List Tm) (tk : List ByteArray) : anL rec ks tk ks.length = (anK rec ks tk).1 := by
 unfold anL; rw [List.take_length, List.drop_length, List.append_nil]
theorem anN_len (i : Nat) : ∀ (bl : List ByteArray) (s : Tm × List ByteArray), (anN i bl s).2.length = s.2.length + bl.length
 | [], _ => rfl
 | x :: xs, s => by
  show (anN i xs (rbM x (markB s.2.length) i s.1, s.2 ++ [firstW (inL s.2)])).2.length = _
  rw [anN_len i xs]
  simp
  omega
theorem anN_KW {T : Tm} (i : Nat) (hi : i < T.kids.length) : ∀ (bl : List ByteArray) (s : Tm × List ByteArray), KW T s.1 → KW T (anN i bl s).1
 | [], _, h => h
 | x :: xs, _, h => anN_KW i hi xs _ (h.rb x _ i hi)
theorem anI_KW {T : Tm} : ∀ (n i : Nat) (s : Tm × List ByteArray), i + n ≤ T.kids.length → KW T s.1 → KW T (anI n i s).1 ∧ (anI n i s).2.length ≤ s.2.length + 12 * n
 | 0, _, _, _, h => ⟨h, Nat.le_refl _⟩
 | n + 1, i, s, hn, h => by
  have h1 := anN_KW i (by omega) (boundL s.1 i) s h
  have h2 := anN_len i (boundL s.1 i) s
  have h3 := h.rs.b12 i
  obtain ⟨h4, h5⟩ := anI_KW n (i + 1) (anN i (boundL s.1 i) s) (by omega) h1
  exact ⟨h4, by show (anI n (i + 1) (anN i (boundL s.1 i) s)).2.length ≤ _; omega⟩
mutual
theorem anR_len : ∀ (f : Nat) (T : Tm) (tk : List ByteArray), AW T → (anR f T tk).2.length ≤ tk.length + 72 * cntN T
 | 0, T, tk, _ => by show tk.length ≤ _; omega
 | f + 1, T, tk, h => by
  obtain ⟨h1, h2⟩ := anI_KW (T := T) T.kids.length 0 (T, tk) (by omega) (KW.refl h)
  have h3 := h.k6
  have h4 := h1.c
  have h5 := anK_len2 f (anI T.kids.length 0 (T, tk)).1.kids (anI T.kids.length 0 (T, tk)).2 (fun t ht => by
   obtain ⟨k, hk, rfl⟩ := List.getElem_of_mem ht
   exact h1.rs.kid k hk)
  rw [cntN_eq] at h4
  show (anK (anR f) (anI T.kids.length 0 (T, tk)).1.kids (anI T.kids.length 0 (T, tk)).2).2.length ≤ _
  have h6 : (T, tk).2.length = tk.length := rfl
  omega
theorem anK_len2 : ∀ (f : Nat) (ks : List Tm) (tk : List ByteArray), (∀ t ∈ ks, AW t) → (anK (anR f) ks tk).2.length ≤ tk.length + 72 * cntNs ks
 | f, [], tk, _ => by show tk.length ≤ _; omega
 | f, k :: ks, tk, h => by
  have h1 := anR_len f k tk (h k List.mem_cons_self)
  have h2 := anK_len2 f ks (anR f k tk).2 fun t ht => h t (List.mem_cons_of_mem _ ht)
  show (anK (anR f) ks (anR f k tk).2).2.length ≤ _
  have h3 : cntNs (k :: ks) = cntN k + cntNs ks := by conv => lhs; unfold cntNs
  omega
end
theorem cntNs_take : ∀ (ks : List Tm) (k : Nat) (h : k < ks.length), cntNs (ks.take k) + cntN ks[k] ≤ cntNs ks
 | t :: ts, 0, _ => by
  have h3 : cntNs (t :: ts) = cntN t + cntNs ts := by conv => lhs; unfold cntNs
  rw [h3]
  show cntNs [] + cntN t ≤ _
  have : cntNs [] = 0 := by unfold cntNs; rfl
  omega
 | t :: ts, k + 1, h => by
  have h3 : ∀ xs, cntNs (t :: xs) = cntN t + cntNs xs := fun xs => by conv => lhs; unfold cntNs
  have := cntNs_take ts k (by simpa using h)
  have e : (t :: ts)[k + 1] = ts[k]'(by simpa using h) := rfl
  rw [List.take_succ_cons, h3, h3, e]
  omega
def OwnR (S : Nat → Prop) (V : World) (rg : Nat) (wi : World) (vt : Value) (b : Nat) : Prop := S b ∨ (V.heap.size ≤ b ∧ b < wi.heap.size ∧ vt.ownBlock ≠ some b ∧ b ≠ rg)
structure AnC (S : Nat → Prop) (V : World) (n0 rg : Nat) (vt4 : Value) : Prop where
 s : ∀ b, S b → b < V.heap.size ∧ b ≠ n0 ∧ vt4.ownBlock ≠ some b
 o : ∀ b, vt4.ownBlock = some b → b < V.heap.size ∧ b ≠ n0
 n : n0 < V.heap.size
 r : V.heap.size ≤ rg
structure AnOut (S : Nat → Prop) (V : World) (n0 rg m0 : Nat) (vt4 : Value) (cs : Array Value) (L : List Tm) (tk : List ByteArray) (vt : Value) (wi : World) : Prop where
 row : RowS m0 wi vt tk
 ob : vt.ownBlock = vt4.ownBlock ∨ ∃ g, vt.ownBlock = some g ∧ V.heap.size ≤ g ∧ g ≠ rg
 box : wi.heap[n0]? = some (.cells cs 32 (0, 0))
 lst : TmsX (OwnR S V rg wi vt) wi L rg 0
 rgb : ∃ cur, wi.heap[rg]? = some (.cells cur 32 (0, 0))
 kp : Kept (fun k => k = n0 ∨ vt4.ownBlock = some k) V wi
section
variable {S : Nat → Prop} {V : World} {n0 rg m0 : Nat} {vt4 : Value} {cs : Array Value} {L : List Tm} {tk : List ByteArray} {vt : Value} {wi : World}
theorem AnOut.own (h : AnOut S V n0 rg m0 vt4 cs L tk vt wi) (hC : AnC S V n0 rg vt4) (b : Nat) (hb : vt.ownBlock = some b) : ¬ S b ∧ b ≠ n0 ∧ b ≠ rg ∧ (b < V.heap.size → vt4.ownBlock = some b) := by
 have h1 := hC.n; have h2 := hC.r
 rcases h.ob with e | ⟨g, e, hg, hr⟩
 ·rw [e] at hb
  have := hC.o b hb
  exact ⟨fun h' => (hC.s b h').2.2 hb, this.2, by omega, fun _ => hb⟩
 ·rw [e] at hb; cases hb
  exact ⟨fun h' => by have := (hC.s b h').1; omega, by omega, hr, fun h' => by omega⟩
theorem AnOut.lt (h : AnOut S V n0 rg m0 vt4 cs L tk vt wi) (hC : AnC S V n0 rg vt4) (b : Nat) (hb : OwnR S V rg wi vt b) : b < wi.heap.size ∧ b ≠ n0 ∧ b ≠ rg ∧ vt.ownBlock ≠ some b := by
 have h1 := hC.n; have h2 := hC.r; have hs := h.kp.size
 rcases hb with hb | hb
 ·have := hC.s b hb
  exact ⟨by omega, this.2.1, by omega, fun e => (h.own hC b e).1 hb⟩
 ·exact ⟨hb.2.1, by omega, hb.2.2.2, hb.2.2.1⟩
set_option maxHeartbeats 1000000 in
theorem AnOut.step (h : AnOut S V n0 rg m0 vt4 cs L tk vt wi) (hC : AnC S V n0 rg vt4) (k : Nat) (hk : k < L.length) {w1 : World} {vt' : Value} {tk2 : List ByteArray} {K : Tm} (hr1 : RowS m0 w1 vt' tk2)
  (ho : vt'.ownBlock = vt.ownBlock ∨ ∃ g, vt'.ownBlock = some g ∧ wi.heap.size ≤ g) (hk1 : Kept (fun b => vt.ownBlock = some b) wi w1) {e0 e1 e2 e3 e4 : Value}
  (ht : TmX (fun b => OwnR S V rg wi vt b ∨ (Fresh wi w1 b ∧ vt'.ownBlock ≠ some b)) w1 K (.agg #[e0, e1, e2, e3, e4])) (X : Obj) :
  AnOut S V n0 rg m0 vt4 cs (L.set k K) tk2 vt' ((((((w1.alloc X).setCell ⟨rg, k * 5, none⟩ e0).setCell ⟨rg, k * 5 + 1, none⟩ e1).setCell ⟨rg, k * 5 + 2, none⟩ e2).setCell ⟨rg, k * 5 + 3, none⟩ e3).setCell ⟨rg, k * 5 + 4, none⟩ e4) := by
 obtain ⟨cur, hcur⟩ := h.rgb
 have hrl := lt_of_block hcur
 have hn := hC.n; have hr := hC.r; have hs := h.kp.size; have hs1 := hk1.size
 have hno : ∀ b, vt'.ownBlock = some b → b ≠ n0 ∧ b ≠ rg := fun b hb => by
  rcases ho with e | ⟨g, e, hg⟩
  ·rw [e] at hb; have := h.own hC b hb; exact ⟨this.2.1, this.2.2.1⟩
  ·rw [e] at hb; cases hb; exact ⟨by omega, by omega⟩
 have hal : ∀ b, b < w1.heap.size → (w1.alloc X).heap[b]? = w1.heap[b]? := fun b hb => Below.heap_alloc _ _ _ hb
 have hnr : ¬ vt.ownBlock = some rg := fun e => (h.own hC rg e).2.2.1 rfl
 have hnn : ¬ vt.ownBlock = some n0 := fun e => (h.own hC n0 e).2.1 rfl
 have hr2 : (w1.alloc X).heap[rg]? = wi.heap[rg]? := (hal rg (by omega)).trans (hk1.block rg hrl hnr)
 obtain ⟨xs, hf, hc⟩ := FlaM.of _ _ h.lst
 obtain ⟨c0, c1, c2, c3, c4, d0, d1, d2, d3, d4, -⟩ := FlaM.get _ _ hf k hk
 have cell : ∀ j u, xs[j]? = some u → (w1.alloc X).cell? ⟨rg, j, none⟩ = some u := fun j u hj => by
  have := hc j u hj
  rw [Nat.zero_add] at this
  exact (cell_of_heap hr2).trans this
 have hpt := put5 (w1.alloc X) rg (k * 5) _ _ _ _ _ e0 e1 e2 e3 e4 (cell _ _ d0) (cell _ _ d1) (cell _ _ d2) (cell _ _ d3) (cell _ _ d4)
 have hbx : ∃ cur, ((((((w1.alloc X).setCell ⟨rg, k * 5, none⟩ e0).setCell ⟨rg, k * 5 + 1, none⟩ e1).setCell ⟨rg, k * 5 + 2, none⟩ e2).setCell ⟨rg, k * 5 + 3, none⟩ e3).setCell ⟨rg, k * 5 + 4, none⟩ e4).heap[rg]? = some (.cells cur 32 (0, 0)) :=
  ⟨_, box_setCell (box_setCell (box_setCell (box_setCell (box_setCell (hr2.trans hcur) _ e0) _ e1) _ e2) _ e3) _ e4⟩
 generalize ((((((w1.alloc X).setCell ⟨rg, k * 5, none⟩ e0).setCell ⟨rg, k * 5 + 1, none⟩ e1).setCell ⟨rg, k * 5 + 2, none⟩ e2).setCell ⟨rg, k * 5 + 3, none⟩ e3).setCell ⟨rg, k * 5 + 4, none⟩ e4) = w3 at *
 obtain ⟨k4, ⟨v0, v1, v2, v3, v4⟩, v5⟩ := hpt w3 rfl
 have hs3 : w1.heap.size + 1 ≤ w3.heap.size := by have := k4.size; simp at this; omega
 have blk : ∀ b, b < w1.heap.size → b ≠ rg → w3.heap[b]? = w1.heap[b]? := fun b hb hne => (k4.block b (by simp; omega) hne).trans (hal b hb)
 have keep : ∀ b, OwnR S V rg wi vt b → w3.heap[b]? = wi.heap[b]? ∧ OwnR S V rg w3 vt' b := fun b hb => by
  obtain ⟨q1, q2, q3, q4⟩ := h.lt hC b hb
  refine ⟨(blk b (by omega) q3).trans (hk1.block b q1 q4), ?_⟩
  rcases hb with hb | hb
  ·exact .inl hb
  ·refine .inr ⟨hb.1, by omega, fun e => ?_, q3⟩
   rcases ho with e' | ⟨g, e', hg⟩
   ·rw [e'] at e; exact q4 e
   ·rw [e'] at e; cases e; omega
 refine ⟨⟨hr1.1, ownsRow_of_block hr1.2 fun g hg => blk g (hr1.2.lt g hg).2 (hno g hg).2⟩, ?_, (blk n0 (by omega) (by omega)).trans ((hk1.block n0 (by omega) hnn).trans h.box), ?_, hbx, ?_⟩
 ·rcases ho with e | ⟨g, e, hg⟩
  ·rw [e]; exact h.ob
  ·exact .inr ⟨g, e, by omega, by omega⟩
 ·refine FlaM.set L xs 0 k hk (FlaM.keep (fun b hb => (keep b hb).1) (fun b hb => (keep b hb).2) _ _ hf) (fun j u hj hu => ?_) ?_ ?_ ?_ ?_ ?_ (TmX.keep (fun b hb => ?_) (fun b hb => ?_) _ _ ht)
  ·rw [Nat.zero_add, v5 j hj]; exact cell j u hu
  ·rw [Nat.zero_add]; exact v0
  ·rw [Nat.zero_add]; exact v1
  ·rw [Nat.zero_add]; exact v2
  ·rw [Nat.zero_add]; exact v3
  ·rw [Nat.zero_add]; exact v4
  ·rcases hb with hb | hb
   ·obtain ⟨q1, q2, q3, q4⟩ := h.lt hC b hb
    exact blk b (by omega) q3
   ·have h1 := hb.1.1; have h2 := hb.1.2
    exact blk b h2 (by omega)
  ·rcases hb with hb | hb
   ·exact (keep b hb).2
   ·have h1 := hb.1.1; have h2 := hb.1.2
    exact .inr ⟨by omega, by omega, hb.2, by omega⟩
 ·refine ⟨?_, ?_, ?_, by omega, fun b hb hne => ?_⟩
  ·exact k4.os.trans (hk1.os.trans h.kp.os)
  ·exact k4.tape.trans (hk1.tape.trans h.kp.tape)
  ·exact k4.output.trans (hk1.output.trans h.kp.output)
  ·refine (blk b (by omega) (by omega)).trans ((hk1.block b (by omega) fun e => ?_).trans (h.kp.block b hb hne))
   exact hne (.inr ((h.own hC b e).2.2.2 hb))
end
end Go.Proofs.YtjpahjfjpkbcnaaGreat
