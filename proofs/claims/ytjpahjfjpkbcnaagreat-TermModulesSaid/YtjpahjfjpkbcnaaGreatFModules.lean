/- TermModules is true for every module, and changes it in nothing. No condition. -/
import Derived.Test.YtjpahjfjpkbcnaaGreatG14
import Derived.Test.YtjpahjfjpkbcnaaGreatRows

/- TermModules: its region 3 and its walk. -/
namespace Go.Proofs.YtjpahjfjpkbcnaaGreat
open Go.Proofs Go.RowKit

def ops5 : Array Oper := #[{ dst := some 7, op := Op.load 56 (Operand.tmp 1), type := 56, pos := "law.go:86", after := #[], guard := none }, { dst := some 8, op := Op.call { callee := Callee.value (Operand.func 35), args := #[Operand.tmp 7], argTypes := #[56] }, type := 43, pos := "law.go:86", after := #[{ on := 0, ground := Ground.data }], guard := none }, { dst := some 9, op := Op.load 56 (Operand.tmp 1), type := 56, pos := "law.go:86", after := #[], guard := none }, { dst := some 10, op := Op.call { callee := Callee.value (Operand.func 36), args := #[Operand.tmp 9], argTypes := #[56] }, type := 4, pos := "law.go:86", after := #[{ on := 2, ground := Ground.data }, { on := 1, ground := Ground.chain }], guard := none }, { dst := some 11, op := Op.call { callee := Callee.value (Operand.func 25), args := #[Operand.tmp 10], argTypes := #[4] }, type := 43, pos := "law.go:86", after := #[{ on := 3, ground := Ground.data }, { on := 3, ground := Ground.chain }], guard := none }, { dst := some 12, op := Op.binOp BinOp.eql 43 (Operand.tmp 8) (Operand.tmp 11) 43, type := 4, pos := "law.go:86", after := #[{ on := 1, ground := Ground.data }, { on := 4, ground := Ground.data }], guard := none }, { dst := some 13, op := Op.move (Operand.tmp 12), type := 4, pos := "law.go:86", after := #[{ on := 5, ground := Ground.data }, { on := 4, ground := Ground.chain }], guard := none }, { dst := some 14, op := Op.call { callee := Callee.value (Operand.func 14), args := #[], argTypes := #[] }, type := 4, pos := "law.go:86", after := #[{ on := 6, ground := Ground.chain }, { on := 6, ground := Ground.guard }], guard := some (6, true) }, { dst := some 15, op := Op.pick (Operand.tmp 13) (Operand.tmp 14) (Operand.const (Value.bool false)), type := 4, pos := "law.go:86", after := #[{ on := 6, ground := Ground.data }, { on := 7, ground := Ground.data }], guard := none }, { dst := some 2, op := Op.assign (Operand.tmp 15), type := 4, pos := "law.go:86", after := #[{ on := 8, ground := Ground.data }, { on := 7, ground := Ground.chain }, { on := 0, ground := Ground.phase }, { on := 1, ground := Ground.phase }, { on := 2, ground := Ground.phase }, { on := 3, ground := Ground.phase }, { on := 4, ground := Ground.phase }, { on := 5, ground := Ground.phase }, { on := 6, ground := Ground.phase }, { on := 7, ground := Ground.phase }, { on := 8, ground := Ground.phase }], guard := none }]
def dst5 (i : Nat) : Nat := 7 + i
theorem dst5_eq : ∀ i, i < 9 → (ops5[i]?.bind (·.dst)) = some (dst5 i) := by
  intro i hi
  have h : (List.range 9).all (fun i => (ops5[i]?.bind (·.dst)) == some (dst5 i)) = true := by kernel_rfl
  simpa using List.all_eq_true.1 h i (List.mem_range.2 hi)
section
variable (U : World) (x0 x1 x2 : Value) (bM : Bool)
def val5 (j : Nat) : Value :=
  match j with
  | 0 => .agg #[x0, x1, x2]
  | 1 => .int .i64 (errOf bM)
  | 2 => .agg #[x0, x1, x2]
  | 3 => .bool bM
  | 4 => .int .i64 (errOf bM)
  | 5 => .bool true
  | 6 => .bool true
  | 7 => .bool true
  | _ => .bool true
def B5 (pt : Nat) (d0 : List Deferred) (a : Act) (w : World) : Prop := a.tmps.size = 16 ∧ a.defers = d0 ∧ a.tmps[1]? = some (.pointer (some ⟨pt, 0, none⟩)) ∧ Below U.heap.size U w
def F5 (j : Nat) (a : Act) (_ : World) : Prop := a.tmps[7 + j]? = some (val5 x0 x1 x2 bM j)
theorem F5_stab (i j : Nat) (a : Act) (w : World) (a' : Act) (w' : World) (hij : i ≠ j) (hi : i < 9) (h : F5 x0 x1 x2 bM j a w) (hx : Ext ops5 i a w a' w') : F5 x0 x1 x2 bM j a' w' := by
  obtain ⟨⟨o, d, v, ho, hd, rfl⟩, hb⟩ := hx
  have he := dst5_eq i hi
  rw [ho] at he
  have hd' : d = dst5 i := by simp [hd] at he; exact he
  have hne : d ≠ 7 + j := fun e => hij (Nat.add_left_cancel (show 7 + i = 7 + j from hd'.symm.trans e))
  exact (put_get hne).trans h
theorem B5_put {pt : Nat} {d0 : List Deferred} {a : Act} {w w' : World} (d : Nat) (v : Value) (h : B5 U pt d0 a w) (h2 : 5 < d) (hb : Below w.heap.size w w') : B5 U pt d0 (a.put (some d) v) w' := by
  obtain ⟨g1, g2, g3, g6⟩ := h
  exact ⟨by rw [size_put]; exact g1, g2, (put_get (by omega)).trans g3, g6.trans (hb.mono g6.size)⟩
end
theorem waits5 (j : Nat) (hj : j < 9) : waitsB .any ops5 9 j = true := by
  have h : (List.range 9).all (fun j => waitsB .any ops5 9 j) = true := by kernel_rfl
  exact List.all_eq_true.1 h j (List.mem_range.2 hj)

set_option maxHeartbeats 8000000 in
set_option maxRecDepth 100000 in
theorem reg5 {Q : Exit → Act → World → Prop} {a : Act} {U : World} {pt : Nat} {x0 x1 x2 : Value} {bM : Bool}
    (hsz : a.tmps.size = 16) (h3 : a.tmps[1]? = some (.pointer (some ⟨pt, 0, none⟩)))
    (hT : U.heap[pt]? = some (.cells #[x0, x1, x2] 56 (0, 0)))
    (c35 : ∀ w, Below U.heap.size U w → Calls Tryz.prog 35 #[.agg #[x0, x1, x2]] w fun e w' => e = .returned (.int .i64 (errOf bM)) ∧ Below w.heap.size w w')
    (c36 : ∀ w, Below U.heap.size U w → Calls Tryz.prog 36 #[.agg #[x0, x1, x2]] w fun e w' => e = .returned (.bool bM) ∧ Below w.heap.size w w')
    (c14 : ∀ w, Calls Tryz.prog 14 #[] w fun e w' => e = .returned (.bool true) ∧ Below w.heap.size w w')
    (hK : ∀ (a' : Act) (w' : World), a'.tmps.size = 16 → a'.defers = a.defers → a'.tmps[2]? = some (.bool true) → Below U.heap.size U w' → Q .normal a' w') :
    (Code.region 3 ops5 true).wp Tryz.prog Q a U := by
  have HK := Lib.hid hK; have HH3 := Lib.hid h3; have HSZ := Lib.hid hsz
  have C35 := Lib.hid c35; have C36 := Lib.hid c36; have C14 := Lib.hid c14
  have HT := Lib.hid hT
  clear hK h3 hsz c35 c36 c14 hT
  refine wp_region_any (by kernel_rfl) ?_
  refine wpAny_inv (by kernel_rfl) 9 ?hz rfl (F5 x0 x1 x2 bM) (B5 U pt a.defers) (Ext ops5) ?hstep (fun i j a w a' w' h1 h2 h3 hB h5 h6 => F5_stab _ _ _ _ i j a w a' w' h1 h2 h5 h6) ?hlast _ (List.range 10) _ a _ (by decide) (by decide) ?hu (by decide) ?hB ?hF
  case hz => exact fun j hj => waits5 j hj
  case hu => exact fun j hj => List.mem_range.2 (rep_true hj)
  case hB => exact ⟨HSZ.out, rfl, HH3.out, below_drew _ _⟩
  case hF => exact fun j hj => (rep_false hj).elim
  case hstep =>
    intro i a1 w1 hi hB hF
    obtain ⟨hsz, -, g3, hbw⟩ := id hB
    have q3 := tmp_get g3 (by omega)
    have h : i = 0 ∨ i = 1 ∨ i = 2 ∨ i = 3 ∨ i = 4 ∨ i = 5 ∨ i = 6 ∨ i = 7 ∨ i = 8 := by omega
    rcases h with rfl | rfl | rfl | rfl | rfl | rfl | rfl | rfl | rfl
    · refine wpOp_step (o := { dst := some 7, op := Op.load 56 (Operand.tmp 1), type := 56, pos := "law.go:86", after := #[], guard := none }) rfl fun KK hKK => ?_
      obtain ⟨c0, c1, c2⟩ := cells3 (bget' hbw HT.out)
      go_simp
      exact hKK _ _ ⟨B5_put _ 7 _ hB (by decide) (Below.refl _ _), put_same (by omega), ⟨_, 7, _, rfl, rfl, rfl⟩, Below.refl _ _⟩
    · refine wpOp_step (o := { dst := some 8, op := Op.call { callee := Callee.value (Operand.func 35), args := #[Operand.tmp 7], argTypes := #[56] }, type := 43, pos := "law.go:86", after := #[{ on := 0, ground := Ground.data }], guard := none }) rfl fun KK hKK => ?_
      have k7 : a1.tmps[7]? = some (.agg #[x0, x1, x2]) := hF 0 (by kernel_rfl)
      have g7 := tmp_get k7 (by omega)
      go_simp
      refine (C35.out w1 hbw).mono ?_
      rintro e w2 ⟨rfl, hb2⟩
      exact hKK _ _ ⟨B5_put _ 8 _ hB (by decide) hb2, put_same (by omega), ⟨_, 8, _, rfl, rfl, rfl⟩, hb2⟩
    · refine wpOp_step (o := { dst := some 9, op := Op.load 56 (Operand.tmp 1), type := 56, pos := "law.go:86", after := #[], guard := none }) rfl fun KK hKK => ?_
      obtain ⟨c0, c1, c2⟩ := cells3 (bget' hbw HT.out)
      go_simp
      exact hKK _ _ ⟨B5_put _ 9 _ hB (by decide) (Below.refl _ _), put_same (by omega), ⟨_, 9, _, rfl, rfl, rfl⟩, Below.refl _ _⟩
    · refine wpOp_step (o := { dst := some 10, op := Op.call { callee := Callee.value (Operand.func 36), args := #[Operand.tmp 9], argTypes := #[56] }, type := 4, pos := "law.go:86", after := #[{ on := 2, ground := Ground.data }, { on := 1, ground := Ground.chain }], guard := none }) rfl fun KK hKK => ?_
      have k9 : a1.tmps[9]? = some (.agg #[x0, x1, x2]) := hF 2 (by kernel_rfl)
      have g9 := tmp_get k9 (by omega)
      go_simp
      refine (C36.out w1 hbw).mono ?_
      rintro e w2 ⟨rfl, hb2⟩
      exact hKK _ _ ⟨B5_put _ 10 _ hB (by decide) hb2, put_same (by omega), ⟨_, 10, _, rfl, rfl, rfl⟩, hb2⟩
    · refine wpOp_step (o := { dst := some 11, op := Op.call { callee := Callee.value (Operand.func 25), args := #[Operand.tmp 10], argTypes := #[4] }, type := 43, pos := "law.go:86", after := #[{ on := 3, ground := Ground.data }, { on := 3, ground := Ground.chain }], guard := none }) rfl fun KK hKK => ?_
      have k10 : a1.tmps[10]? = some (.bool bM) := hF 3 (by kernel_rfl)
      have g10 := tmp_get k10 (by omega)
      go_simp
      refine (err_any _ w1).mono ?_
      rintro e w2 ⟨rfl, hb2⟩
      exact hKK _ _ ⟨B5_put _ 11 _ hB (by decide) hb2, put_same (by omega), ⟨_, 11, _, rfl, rfl, rfl⟩, hb2⟩
    · refine wpOp_step (o := { dst := some 12, op := Op.binOp BinOp.eql 43 (Operand.tmp 8) (Operand.tmp 11) 43, type := 4, pos := "law.go:86", after := #[{ on := 1, ground := Ground.data }, { on := 4, ground := Ground.data }], guard := none }) rfl fun KK hKK => ?_
      have k8 : a1.tmps[8]? = some (.int .i64 (errOf bM)) := hF 1 (by kernel_rfl)
      have g8 := tmp_get k8 (by omega)
      have k11 : a1.tmps[11]? = some (.int .i64 (errOf bM)) := hF 4 (by kernel_rfl)
      have g11 := tmp_get k11 (by omega)
      go_simp
      exact hKK _ _ ⟨B5_put _ 12 _ hB (by decide) (Below.refl _ _), put_same (by omega), ⟨_, 12, _, rfl, rfl, rfl⟩, Below.refl _ _⟩
    · refine wpOp_step (o := { dst := some 13, op := Op.move (Operand.tmp 12), type := 4, pos := "law.go:86", after := #[{ on := 5, ground := Ground.data }, { on := 4, ground := Ground.chain }], guard := none }) rfl fun KK hKK => ?_
      have k12 : a1.tmps[12]? = some (.bool true) := hF 5 (by kernel_rfl)
      have g12 := tmp_get k12 (by omega)
      go_simp
      exact hKK _ _ ⟨B5_put _ 13 _ hB (by decide) (Below.refl _ _), put_same (by omega), ⟨_, 13, _, rfl, rfl, rfl⟩, Below.refl _ _⟩
    · refine wpOp_step (o := { dst := some 14, op := Op.call { callee := Callee.value (Operand.func 14), args := #[], argTypes := #[] }, type := 4, pos := "law.go:86", after := #[{ on := 6, ground := Ground.chain }, { on := 6, ground := Ground.guard }], guard := some (6, true) }) rfl fun KK hKK => ?_
      have k13 : a1.tmps[13]? = some (.bool true) := hF 6 (by kernel_rfl)
      have g13 := tmp_get k13 (by omega)
      go_simp
      rw [if_pos (by rw [show (ops5[6]?.bind fun x => x.dst) = some 13 from rfl]; simp [k13])]
      refine (C14.out w1).mono ?_
      rintro e w2 ⟨rfl, hb2⟩
      exact hKK _ _ ⟨B5_put _ 14 _ hB (by decide) hb2, put_same (by omega), ⟨_, 14, _, rfl, rfl, rfl⟩, hb2⟩
    · refine wpOp_step (o := { dst := some 15, op := Op.pick (Operand.tmp 13) (Operand.tmp 14) (Operand.const (Value.bool false)), type := 4, pos := "law.go:86", after := #[{ on := 6, ground := Ground.data }, { on := 7, ground := Ground.data }], guard := none }) rfl fun KK hKK => ?_
      have k13 : a1.tmps[13]? = some (.bool true) := hF 6 (by kernel_rfl)
      have g13 := tmp_get k13 (by omega)
      have k14 : a1.tmps[14]? = some (.bool true) := hF 7 (by kernel_rfl)
      have g14 := tmp_get k14 (by omega)
      go_simp
      exact hKK _ _ ⟨B5_put _ 15 _ hB (by decide) (Below.refl _ _), put_same (by omega), ⟨_, 15, _, rfl, rfl, rfl⟩, Below.refl _ _⟩
  case hlast =>
    intro a1 w1 hB hF
    obtain ⟨hsz, hdf, g3, hbw⟩ := hB
    have k15 : a1.tmps[15]? = some (.bool true) := hF 8 (by omega)
    have g15 := tmp_get k15 (by omega)
    refine wpOp_step (o := { dst := some 2, op := Op.assign (Operand.tmp 15), type := 4, pos := "law.go:86", after := #[{ on := 8, ground := Ground.data }, { on := 7, ground := Ground.chain }, { on := 0, ground := Ground.phase }, { on := 1, ground := Ground.phase }, { on := 2, ground := Ground.phase }, { on := 3, ground := Ground.phase }, { on := 4, ground := Ground.phase }, { on := 5, ground := Ground.phase }, { on := 6, ground := Ground.phase }, { on := 7, ground := Ground.phase }, { on := 8, ground := Ground.phase }], guard := none }) rfl fun KK hKK => ?_
    go_simp
    exact hKK _ _ (HK.out _ _ (by simp; exact hsz) rfl (put_same (by omega)) hbw)

/-! ### the walk -/
theorem smallDt_types {d : Dt} (h : smallDt d = true) : ∀ c ∈ d.cons, ∀ t ∈ c.types, heightY t ≤ 1000 := by
  unfold smallDt at h
  simp only [Bool.and_eq_true, List.all_eq_true] at h
  intro c hc t ht
  have h2 := h.2 c hc
  unfold smallCo at h2
  simp only [Bool.and_eq_true, List.all_eq_true] at h2
  exact SmallType_height (h2.2 t ht)
theorem smallMd_ok {m : Md} (h : smallMd m = true) : MdOk m ∧ m.datas.length ≤ 6 ∧ m.funs.length ≤ 8 := by
  unfold smallMd at h
  simp only [Bool.and_eq_true, List.all_eq_true, decide_eq_true_eq] at h
  obtain ⟨⟨⟨⟨-, h1⟩, h2⟩, h3⟩, h4⟩ := h
  refine ⟨⟨fun d hd => smallDt_types (h3 d hd), fun f hf => ?_⟩, h1, h2⟩
  have h5 := h4 f hf
  unfold smallFn at h5
  simp only [Bool.and_eq_true] at h5
  obtain ⟨⟨⟨-, h6⟩, h7⟩, h8⟩ := h5
  have h9 := SmallTerm_ok h8
  exact ⟨SmallType_height h6, SmallType_height h7, h9.2.1, h9.1⟩

set_option maxHeartbeats 4000000 in
set_option maxRecDepth 100000 in
theorem modules_any (m : Md) (v : Value) (w : World) (hv : MdAt w.heap.size w m v) :
    Calls Tryz.prog 5 #[v] w fun e w' => e = .returned (.bool true) ∧ Below w.heap.size w w' := by
  have hvv := hv
  obtain ⟨dv, fv, rfl, htx, hk, hf⟩ := hv
  obtain ⟨a, cap, rfl, hcap, hlc, -⟩ := hk.split
  obtain ⟨a', cap', rfl, hcap', hlc', -⟩ := hf.split
  have hbx := heap_alloc_new w (.cells #[.string m.name, .slice a m.datas.length cap, .slice a' m.funs.length cap'] 56)
  have hb0 : Below w.heap.size w (w.alloc (.cells #[.string m.name, .slice a m.datas.length cap, .slice a' m.funs.length cap'] 56)) := (Below.refl _ w).alloc (Nat.le_refl _) _
  have HBX := Lib.hid hbx; have HB0 := Lib.hid hb0; have HV := Lib.hid hvv
  obtain ⟨c0, c1, c2⟩ := cells3 hbx
  clear hk hf hvv hbx hb0
  go_enter Tryz.func5, Tryz.ntmps5
  go_wp2_with fail
  refine (SmallModule_any m _ _ (MdAt.keep HB0.out HB0.out.size HV.out)).mono ?_
  rintro e w1 ⟨rfl, hb1⟩
  have HB1 := Lib.hid (HB0.out.trans (hb1.mono HB0.out.size))
  have HBX1 := Lib.hid (bget' hb1 HBX.out)
  clear hb1 c0 c1 c2
  cases hs : smallMd m
  · go_wp2_with fail
    refine (known_any w1).mono ?_
    rintro e w4 ⟨rfl, hb4⟩
    have HB4 := Lib.hid (HB1.out.trans (hb4.mono HB1.out.size))
    clear hb4
    go_wp2
    go_ret
    exact ⟨rfl, HB4.out⟩
  obtain ⟨hok, hl1, hl2⟩ := smallMd_ok hs
  have C35 := Lib.hid fun (V : World) (hb : Below w.heap.size w V) => CheckModule_any m _ V (MdAt.keep hb hb.size HV.out) hok (by omega) (by omega)
  have C36 := Lib.hid fun (V : World) (hb : Below w.heap.size w V) => refModule_any m _ V (MdAt.keep hb hb.size HV.out) fun f hf => (hok.2 f hf).2.2.2
  clear hok hs
  go_upto_region 3 with fail
  refine reg5 (a := _) rfl rfl HBX1.out (fun V hb => C35.out V (HB1.out.trans (hb.mono HB1.out.size))) (fun V hb => C36.out V (HB1.out.trans (hb.mono HB1.out.size))) known_any ?_
  rintro ⟨t9, d9⟩ w9 hz hd h6 hb9
  obtain rfl : d9 = [] := hd
  have g6 := tmp_get h6 (by omega)
  have HB9 := Lib.hid (HB1.out.trans (hb9.mono HB1.out.size))
  clear hb9
  go_wp2
  go_ret
  have e6 : t9.getD 2 undef = .bool true := by rw [Array.getD_eq_getD_getElem?, h6]; rfl
  exact ⟨congrArg Ending.returned e6, HB9.out⟩

end Go.Proofs.YtjpahjfjpkbcnaaGreat

/- TermModules is true for every module, and changes it in nothing. No condition. -/
namespace Go.Proofs.YtjpahjfjpkbcnaaGreat
open Go.ChangeShapes Go.WideShapes Go.ChangeAt Go.RowKit
open Go.ChangeMaps (open_string shut_string)

set_option maxRecDepth 100000 in
theorem termModules_lifted (os : Os) (started : os.Started) (H : Type) (enc : TypeId × Value → H) :
    ReturnsInHanded {} Tryz.checked os 5 .any (Rows.termModulesSpec.pre6 enc Tryz.prog Tryz.f5 Rows.termModulesRow.domain false) (Rows.termModulesSpec.post enc Tryz.prog Tryz.f5 false true false false) := by
  refine returnsInHanded_of_change (C := Tryz.checked) Tryz.own started (by kernel_rfl) Tryz.func5
    (ChangeSpec.witness6 (enc := enc) (C := Tryz.checked) false ⟨#[], #[.agg #[.string ⟨#[]⟩, .slice none 0 0, .slice none 0 0]], []⟩ 8 (by kernel_rfl) (by kernel_rfl) (by kernel_rfl) (by kernel_rfl)) ?_
  intro W base args ds gs before hval0 hW hcnd _
  have hval : ∀ (j : Nat) t v, Tryz.f5.params[j]? = some t → args[j]? = some v → Value.okWide Tryz.prog W .any base t v := hval0
  have hW' := hW
  obtain ⟨p, q, hA0, hV, rfl, hfz, hnd⟩ := hW
  have hA : DataW.TrodAll enc Tryz.prog W 0 (fun _ => true) true Tryz.f5.params.toList args.toList ds p := hA0
  rw [Tryz.params5] at hA hval
  obtain ⟨v0, d0, rfl, rfl, h0⟩ := trodAll_one hA
  obtain ⟨rfl, rfl⟩ := trodVars_none hV
  have h0k := h0
  obtain ⟨T0, hT0⟩ := open_md (hval 0 56 v0 rfl rfl) h0
  clear hA0 hval0
  simp only [List.append_nil] at hW'
  have hlt : ∀ x ∈ p, x.block < W.heap.size := fun x hx => by simpa using hW'.lt x hx
  refine (modules_any T0 v0 W hT0).mono fun e W' ⟨he, hnx⟩ => ?_
  subst he
  refine ⟨_, rfl, _, _, _, [] ++ [], p, [], hW', ?_, ?_, rfl, hnx.frame _, fun h => by cases h⟩
  · exact trodAll_mk1 (shut_bool Tryz.underlying4 true)
  · exact trodAll_mk1 (Below.trod Tryz.laidOut (by kernel_rfl) (of_decide_eq_true (by kernel_rfl)) h0k hnx (fun x hx => hlt x (hx)))

theorem termModules_holds : Rows.TermModulesSaid :=
  OpenClaim.holds_of_wide 5 Tryz.f5 rfl rfl rfl rfl rfl rfl rfl ⟨rfl, rfl, rfl, rfl, rfl⟩ rfl rfl rfl rfl rfl (by kernel_rfl) Tryz.func5 (by kernel_rfl)
    (of_decide_eq_true (by kernel_rfl)) (by unfold Func.isWrapper; first | (rw [if_pos (by decide +kernel)]; kernel_rfl) | (rw [if_neg (by decide +kernel)]; exact ⟨rfl, rfl⟩))
    (fun os started H enc _ => termModules_lifted os started H enc)

end Go.Proofs.YtjpahjfjpkbcnaaGreat
