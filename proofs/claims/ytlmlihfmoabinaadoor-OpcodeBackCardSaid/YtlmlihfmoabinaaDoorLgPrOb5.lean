import Derived.Test.YtlmlihfmoabinaaDoorLgW
import Derived.Test.YtlmlihfmoabinaaDoorLgPrOb4
import Derived.Test.YtlmlihfmoabinaaDoorChecked
import Derived.Shelf.Strconv.Itoa3
import Derived.Shelf.Strconv.AtoiAll
import Derived.Lib.AppendIntMem
import Derived.Shelf.Strings.Search2
import Derived.Shelf.Strings.Count
import Derived.Shelf.Strings.Prefix
import Derived.KernelRfl
set_option linter.all false
namespace Go.Proofs.YtlmlihfmoabinaaDoorLg
noncomputable section
open Go Go.Lift Go.Proofs Go.Shelf
def z10f:Go.Shelf.Ren:=⟨fun|171=>37|243=>59|246=>74|283=>89|284=>90|285=>91|286=>92|129=>102|317=>101|318=>103|319=>104|320=>105|337=>108|338=>109|n=>n,fun|3=>3|9=>9|2=>2|4=>4|171=>109|0=>0|53=>110|37=>57|5=>5|173=>113|212=>125|51=>121|20=>20|213=>126|46=>84|232=>138|233=>139|n=>n,fun|17=>4|18=>7|19=>8|n=>n⟩
theorem z1am:LaysM.n171 Tryd.prog z10f where
 mixed:=by kernel_rfl
 f129:=Tryd.func102.trans (congrArg some (by kernel_rfl))
 f171:=Tryd.func37.trans (congrArg some (by kernel_rfl))
 f243:=Tryd.func59.trans (congrArg some (by kernel_rfl))
 f246:=Tryd.func74.trans (congrArg some (by kernel_rfl))
 f283:=Tryd.func89.trans (congrArg some (by kernel_rfl))
 f284:=Tryd.func90.trans (congrArg some (by kernel_rfl))
 f285:=Tryd.func91.trans (congrArg some (by kernel_rfl))
 f286:=Tryd.func92.trans (congrArg some (by kernel_rfl))
 f317:=Tryd.func101.trans (congrArg some (by kernel_rfl))
 f318:=Tryd.func103.trans (congrArg some (by kernel_rfl))
 f319:=Tryd.func104.trans (congrArg some (by kernel_rfl))
 f320:=Tryd.func105.trans (congrArg some (by kernel_rfl))
 f337:=Tryd.func108.trans (congrArg some (by kernel_rfl))
 f338:=Tryd.func109.trans (congrArg some (by kernel_rfl))
 t0:=Tryd.underlying0
 a0:=Tryd.isAgg0
 z0:=Tryd.sizeOf0
 v0:=Tryd.zeroValue0
 t2:=Tryd.underlying2
 a2:=Tryd.isAgg2
 z2:=Tryd.sizeOf2
 v2:=Tryd.zeroValue2
 t3:=Tryd.underlying3
 a3:=Tryd.isAgg3
 z3:=Tryd.sizeOf3
 v3:=Tryd.zeroValue3
 t4:=Tryd.underlying4
 a4:=Tryd.isAgg4
 z4:=Tryd.sizeOf4
 v4:=Tryd.zeroValue4
 t5:=Tryd.underlying5
 a5:=Tryd.isAgg5
 z5:=Tryd.sizeOf5
 v5:=Tryd.zeroValue5
 t9:=Tryd.underlying9
 a9:=Tryd.isAgg9
 z9:=Tryd.sizeOf9
 v9:=Tryd.zeroValue9
 t20:=Tryd.underlying20
 a20:=Tryd.isAgg20
 z20:=Tryd.sizeOf20
 v20:=Tryd.zeroValue20
 t37:=Tryd.underlying57
 a37:=Tryd.isAgg57
 z37:=Tryd.sizeOf57
 v37:=Tryd.zeroValue57
 t46:=Tryd.underlying84
 a46:=Tryd.isAgg84
 z46:=Tryd.sizeOf84
 v46:=Tryd.zeroValue84
 t51:=Tryd.underlying121
 a51:=Tryd.isAgg121
 z51:=Tryd.sizeOf121
 v51:=Tryd.zeroValue121
 t53:=Tryd.underlying110
 a53:=Tryd.isAgg110
 z53:=Tryd.sizeOf110
 v53:=Tryd.zeroValue110
 t171:=Tryd.underlying109
 a171:=Tryd.isAgg109
 z171:=Tryd.sizeOf109
 v171:=Tryd.zeroValue109
 t173:=Tryd.underlying113
 a173:=Tryd.isAgg113
 z173:=Tryd.sizeOf113
 v173:=Tryd.zeroValue113
 t212:=Tryd.underlying125
 a212:=Tryd.isAgg125
 z212:=Tryd.sizeOf125
 v212:=Tryd.zeroValue125
 t213:=Tryd.underlying126
 a213:=Tryd.isAgg126
 z213:=Tryd.sizeOf126
 t232:=Tryd.underlying138
 a232:=Tryd.isAgg138
 z232:=Tryd.sizeOf138
 v232:=Tryd.zeroValue138
 t233:=Tryd.underlying139
 a233:=Tryd.isAgg139
 z233:=Tryd.sizeOf139
 v233:=Tryd.zeroValue139
 g17:=by kernel_rfl
 g18:=by kernel_rfl
 g19:=by kernel_rfl
 i0:=by kernel_rfl
 i2:=by kernel_rfl
 i3:=by kernel_rfl
 i4:=by kernel_rfl
 i5:=by kernel_rfl
 i9:=by kernel_rfl
 i20:=by kernel_rfl
 i37:=by kernel_rfl
 i46:=by kernel_rfl
 i51:=by kernel_rfl
 i53:=by kernel_rfl
 i171:=by kernel_rfl
 i173:=by kernel_rfl
 i212:=by kernel_rfl
 i232:=by kernel_rfl
 i233:=by kernel_rfl
 m17:=by kernel_rfl
 m18:=by kernel_rfl
 m19:=by kernel_rfl
def z10d:Go.Shelf.Ren:=⟨fun|172=>47|244=>65|245=>66|247=>78|279=>79|280=>80|281=>81|282=>82|287=>95|316=>96|171=>37|205=>97|321=>106|322=>107|243=>59|246=>74|283=>89|284=>90|285=>91|286=>92|129=>102|317=>101|318=>103|319=>104|320=>105|337=>108|338=>109|n=>n,fun|9=>9|3=>3|75=>61|76=>62|4=>4|5=>5|167=>99|37=>57|0=>0|85=>100|2=>2|168=>102|53=>110|175=>116|46=>84|210=>119|127=>82|145=>136|143=>134|21=>21|171=>109|173=>113|212=>125|51=>121|20=>20|213=>126|232=>138|233=>139|80=>64|n=>n,fun|15=>2|16=>3|17=>4|18=>7|19=>8|n=>n⟩
theorem z10e:LaysC.n172 Tryd.prog z10d where
 mixed:=by kernel_rfl
 f129:=Tryd.func102.trans (congrArg some (by kernel_rfl))
 f171:=Tryd.func37.trans (congrArg some (by kernel_rfl))
 f172:=Tryd.func47.trans (congrArg some (by kernel_rfl))
 f205:=Tryd.func97.trans (congrArg some (by kernel_rfl))
 f243:=Tryd.func59.trans (congrArg some (by kernel_rfl))
 f244:=Tryd.func65.trans (congrArg some (by kernel_rfl))
 f245:=Tryd.func66.trans (congrArg some (by kernel_rfl))
 f246:=Tryd.func74.trans (congrArg some (by kernel_rfl))
 f247:=Tryd.func78.trans (congrArg some (by kernel_rfl))
 f279:=Tryd.func79.trans (congrArg some (by kernel_rfl))
 f280:=Tryd.func80.trans (congrArg some (by kernel_rfl))
 f281:=Tryd.func81.trans (congrArg some (by kernel_rfl))
 f282:=Tryd.func82.trans (congrArg some (by kernel_rfl))
 f283:=Tryd.func89.trans (congrArg some (by kernel_rfl))
 f284:=Tryd.func90.trans (congrArg some (by kernel_rfl))
 f285:=Tryd.func91.trans (congrArg some (by kernel_rfl))
 f286:=Tryd.func92.trans (congrArg some (by kernel_rfl))
 f287:=Tryd.func95.trans (congrArg some (by kernel_rfl))
 f316:=Tryd.func96.trans (congrArg some (by kernel_rfl))
 f317:=Tryd.func101.trans (congrArg some (by kernel_rfl))
 f318:=Tryd.func103.trans (congrArg some (by kernel_rfl))
 f319:=Tryd.func104.trans (congrArg some (by kernel_rfl))
 f320:=Tryd.func105.trans (congrArg some (by kernel_rfl))
 f321:=Tryd.func106.trans (congrArg some (by kernel_rfl))
 f322:=Tryd.func107.trans (congrArg some (by kernel_rfl))
 f337:=Tryd.func108.trans (congrArg some (by kernel_rfl))
 f338:=Tryd.func109.trans (congrArg some (by kernel_rfl))
 t0:=Tryd.underlying0
 a0:=Tryd.isAgg0
 z0:=Tryd.sizeOf0
 v0:=Tryd.zeroValue0
 t2:=Tryd.underlying2
 a2:=Tryd.isAgg2
 z2:=Tryd.sizeOf2
 v2:=Tryd.zeroValue2
 t3:=Tryd.underlying3
 a3:=Tryd.isAgg3
 z3:=Tryd.sizeOf3
 v3:=Tryd.zeroValue3
 t4:=Tryd.underlying4
 a4:=Tryd.isAgg4
 z4:=Tryd.sizeOf4
 v4:=Tryd.zeroValue4
 t5:=Tryd.underlying5
 a5:=Tryd.isAgg5
 z5:=Tryd.sizeOf5
 v5:=Tryd.zeroValue5
 t9:=Tryd.underlying9
 a9:=Tryd.isAgg9
 z9:=Tryd.sizeOf9
 v9:=Tryd.zeroValue9
 t20:=Tryd.underlying20
 a20:=Tryd.isAgg20
 z20:=Tryd.sizeOf20
 v20:=Tryd.zeroValue20
 t21:=Tryd.underlying21
 a21:=Tryd.isAgg21
 z21:=Tryd.sizeOf21
 v21:=Tryd.zeroValue21
 t37:=Tryd.underlying57
 a37:=Tryd.isAgg57
 z37:=Tryd.sizeOf57
 v37:=Tryd.zeroValue57
 t46:=Tryd.underlying84
 a46:=Tryd.isAgg84
 z46:=Tryd.sizeOf84
 v46:=Tryd.zeroValue84
 t51:=Tryd.underlying121
 a51:=Tryd.isAgg121
 z51:=Tryd.sizeOf121
 v51:=Tryd.zeroValue121
 t53:=Tryd.underlying110
 a53:=Tryd.isAgg110
 z53:=Tryd.sizeOf110
 v53:=Tryd.zeroValue110
 t75:=Tryd.underlying61
 a75:=Tryd.isAgg61
 z75:=Tryd.sizeOf61
 v75:=Tryd.zeroValue61
 t76:=Tryd.underlying62
 a76:=Tryd.isAgg62
 z76:=Tryd.sizeOf62
 v76:=Tryd.zeroValue62
 t85:=Tryd.underlying100
 a85:=Tryd.isAgg100
 z85:=Tryd.sizeOf100
 v85:=Tryd.zeroValue100
 t127:=Tryd.underlying82
 a127:=Tryd.isAgg82
 z127:=Tryd.sizeOf82
 v127:=Tryd.zeroValue82
 t143:=Tryd.underlying134
 a143:=Tryd.isAgg134
 z143:=Tryd.sizeOf134
 v143:=Tryd.zeroValue134
 t145:=Tryd.underlying136
 a145:=Tryd.isAgg136
 z145:=Tryd.sizeOf136
 v145:=Tryd.zeroValue136
 t167:=Tryd.underlying99
 a167:=Tryd.isAgg99
 z167:=Tryd.sizeOf99
 v167:=Tryd.zeroValue99
 t168:=Tryd.underlying102
 a168:=Tryd.isAgg102
 z168:=Tryd.sizeOf102
 v168:=Tryd.zeroValue102
 t171:=Tryd.underlying109
 a171:=Tryd.isAgg109
 z171:=Tryd.sizeOf109
 v171:=Tryd.zeroValue109
 t173:=Tryd.underlying113
 a173:=Tryd.isAgg113
 z173:=Tryd.sizeOf113
 v173:=Tryd.zeroValue113
 t175:=Tryd.underlying116
 a175:=Tryd.isAgg116
 z175:=Tryd.sizeOf116
 v175:=Tryd.zeroValue116
 t210:=Tryd.underlying119
 a210:=Tryd.isAgg119
 z210:=Tryd.sizeOf119
 v210:=Tryd.zeroValue119
 t212:=Tryd.underlying125
 a212:=Tryd.isAgg125
 z212:=Tryd.sizeOf125
 v212:=Tryd.zeroValue125
 t213:=Tryd.underlying126
 a213:=Tryd.isAgg126
 z213:=Tryd.sizeOf126
 t232:=Tryd.underlying138
 a232:=Tryd.isAgg138
 z232:=Tryd.sizeOf138
 v232:=Tryd.zeroValue138
 t233:=Tryd.underlying139
 a233:=Tryd.isAgg139
 z233:=Tryd.sizeOf139
 v233:=Tryd.zeroValue139
 g15:=by kernel_rfl
 g16:=by kernel_rfl
 g17:=by kernel_rfl
 g18:=by kernel_rfl
 g19:=by kernel_rfl
 t80:=Tryd.underlying64
 a80:=Tryd.isAgg64
 z80:=Tryd.sizeOf64
 v80:=Tryd.zeroValue64
 i0:=by kernel_rfl
 i2:=by kernel_rfl
 i3:=by kernel_rfl
 i4:=by kernel_rfl
 i5:=by kernel_rfl
 i9:=by kernel_rfl
 i20:=by kernel_rfl
 i21:=by kernel_rfl
 i37:=by kernel_rfl
 i46:=by kernel_rfl
 i51:=by kernel_rfl
 i53:=by kernel_rfl
 i75:=by kernel_rfl
 i76:=by kernel_rfl
 i80:=by kernel_rfl
 i85:=by kernel_rfl
 i127:=by kernel_rfl
 i143:=by kernel_rfl
 i145:=by kernel_rfl
 i167:=by kernel_rfl
 i168:=by kernel_rfl
 i171:=by kernel_rfl
 i173:=by kernel_rfl
 i175:=by kernel_rfl
 i210:=by kernel_rfl
 i212:=by kernel_rfl
 i232:=by kernel_rfl
 i233:=by kernel_rfl
 m15:=by kernel_rfl
 m16:=by kernel_rfl
 m17:=by kernel_rfl
 m18:=by kernel_rfl
 m19:=by kernel_rfl
 c0:=by kernel_rfl
 c2:=by kernel_rfl
 c3:=by kernel_rfl
 c4:=by kernel_rfl
 c5:=by kernel_rfl
 c9:=by kernel_rfl
 c20:=by kernel_rfl
 c21:=by kernel_rfl
 c37:=by kernel_rfl
 c46:=by kernel_rfl
 c51:=by kernel_rfl
 c53:=by kernel_rfl
 c75:=by kernel_rfl
 c76:=by kernel_rfl
 c80:=by kernel_rfl
 c85:=by kernel_rfl
 c127:=by kernel_rfl
 c143:=by kernel_rfl
 c145:=by kernel_rfl
 c167:=by kernel_rfl
 c168:=by kernel_rfl
 c171:=by kernel_rfl
 c173:=by kernel_rfl
 c175:=by kernel_rfl
 c210:=by kernel_rfl
 c212:=by kernel_rfl
 c213:=by kernel_rfl
 c232:=by kernel_rfl
 c233:=by kernel_rfl
def z10h:Go.Shelf.Ren:=⟨fun|101=>46|208=>64|206=>77|n=>n,fun|9=>9|4=>4|3=>3|n=>n,fun|n=>n⟩
theorem z1ao:Lays.n101 Tryd.prog z10h where
 mixed:=by kernel_rfl
 f101:=Tryd.func46.trans (congrArg some (by kernel_rfl))
 f206:=Tryd.func77.trans (congrArg some (by kernel_rfl))
 f208:=Tryd.func64.trans (congrArg some (by kernel_rfl))
 t3:=Tryd.underlying3
 a3:=Tryd.isAgg3
 z3:=Tryd.sizeOf3
 v3:=Tryd.zeroValue3
 t4:=Tryd.underlying4
 a4:=Tryd.isAgg4
 z4:=Tryd.sizeOf4
 v4:=Tryd.zeroValue4
 t9:=Tryd.underlying9
 a9:=Tryd.isAgg9
 z9:=Tryd.sizeOf9
 v9:=Tryd.zeroValue9
def z10g:Go.Shelf.Ren:=⟨fun|138=>30|195=>54|218=>55|143=>56|219=>71|217=>84|225=>85|224=>86|267=>87|266=>99|314=>100|n=>n,fun|9=>9|3=>3|4=>4|5=>5|0=>0|46=>84|146=>122|51=>121|n=>n,fun|1=>1|n=>n⟩
theorem z1an:Lays.n138 Tryd.prog z10g where
 mixed:=by kernel_rfl
 f138:=Tryd.func30.trans (congrArg some (by kernel_rfl))
 f143:=Tryd.func56.trans (congrArg some (by kernel_rfl))
 f195:=Tryd.func54.trans (congrArg some (by kernel_rfl))
 f217:=Tryd.func84.trans (congrArg some (by kernel_rfl))
 f218:=Tryd.func55.trans (congrArg some (by kernel_rfl))
 f219:=Tryd.func71.trans (congrArg some (by kernel_rfl))
 f224:=Tryd.func86.trans (congrArg some (by kernel_rfl))
 f225:=Tryd.func85.trans (congrArg some (by kernel_rfl))
 f266:=Tryd.func99.trans (congrArg some (by kernel_rfl))
 f267:=Tryd.func87.trans (congrArg some (by kernel_rfl))
 f314:=Tryd.func100.trans (congrArg some (by kernel_rfl))
 t0:=Tryd.underlying0
 a0:=Tryd.isAgg0
 z0:=Tryd.sizeOf0
 v0:=Tryd.zeroValue0
 t3:=Tryd.underlying3
 a3:=Tryd.isAgg3
 z3:=Tryd.sizeOf3
 v3:=Tryd.zeroValue3
 t4:=Tryd.underlying4
 a4:=Tryd.isAgg4
 z4:=Tryd.sizeOf4
 v4:=Tryd.zeroValue4
 t5:=Tryd.underlying5
 a5:=Tryd.isAgg5
 z5:=Tryd.sizeOf5
 v5:=Tryd.zeroValue5
 t9:=Tryd.underlying9
 a9:=Tryd.isAgg9
 z9:=Tryd.sizeOf9
 v9:=Tryd.zeroValue9
 t46:=Tryd.underlying84
 a46:=Tryd.isAgg84
 z46:=Tryd.sizeOf84
 v46:=Tryd.zeroValue84
 t51:=Tryd.underlying121
 a51:=Tryd.isAgg121
 z51:=Tryd.sizeOf121
 v51:=Tryd.zeroValue121
 t146:=Tryd.underlying122
 a146:=Tryd.isAgg122
 z146:=Tryd.sizeOf122
 v146:=Tryd.zeroValue122
 g1:=by kernel_rfl
def z10c:Go.Shelf.Ren:=⟨fun|219=>71|217=>84|225=>85|224=>86|267=>87|266=>99|314=>100|n=>n,fun|9=>9|3=>3|4=>4|5=>5|46=>84|146=>122|51=>121|n=>n,fun|1=>1|n=>n⟩
theorem z1al:Lays.n219 Tryd.prog z10c where
 mixed:=by kernel_rfl
 f217:=Tryd.func84.trans (congrArg some (by kernel_rfl))
 f219:=Tryd.func71.trans (congrArg some (by kernel_rfl))
 f224:=Tryd.func86.trans (congrArg some (by kernel_rfl))
 f225:=Tryd.func85.trans (congrArg some (by kernel_rfl))
 f266:=Tryd.func99.trans (congrArg some (by kernel_rfl))
 f267:=Tryd.func87.trans (congrArg some (by kernel_rfl))
 f314:=Tryd.func100.trans (congrArg some (by kernel_rfl))
 t3:=Tryd.underlying3
 a3:=Tryd.isAgg3
 z3:=Tryd.sizeOf3
 v3:=Tryd.zeroValue3
 t4:=Tryd.underlying4
 a4:=Tryd.isAgg4
 z4:=Tryd.sizeOf4
 v4:=Tryd.zeroValue4
 t5:=Tryd.underlying5
 a5:=Tryd.isAgg5
 z5:=Tryd.sizeOf5
 v5:=Tryd.zeroValue5
 t9:=Tryd.underlying9
 a9:=Tryd.isAgg9
 z9:=Tryd.sizeOf9
 v9:=Tryd.zeroValue9
 t46:=Tryd.underlying84
 a46:=Tryd.isAgg84
 z46:=Tryd.sizeOf84
 v46:=Tryd.zeroValue84
 t51:=Tryd.underlying121
 a51:=Tryd.isAgg121
 z51:=Tryd.sizeOf121
 v51:=Tryd.zeroValue121
 t146:=Tryd.underlying122
 a146:=Tryd.isAgg122
 z146:=Tryd.sizeOf122
 v146:=Tryd.zeroValue122
 g1:=by kernel_rfl
theorem zi3 {w0 w:World}{S0:Hp}(hS:Lift.Sub S0 (hp w0))(hb:Go.RowKit.Below w0.heap.size w0 w):NSt w0 S0 w S0 [] :=
 ⟨⟨hb.size,fun k hk _=>hb.block k hk,hb.tape,hb.os,hb.output⟩,Lift.Sub.refl _,fun k o hk=>by
  have h3:=hS k o hk;have:=hb.block k (z7x h3);simp only[hp] at h3 ⊢;rw[this];exact h3,fun _ h=>.inl h,fun p hp=>by cases hp⟩
theorem zw0 {glob:Nat->Option Dat}{S:Hp}{w:World}(hg:GlobOk glob S)(hS:Lift.Sub S (hp w)){g:Nat}{d:Dat}(e:glob g=some d):∃ cs E fr,w.heap[g]?=some (.cells cs E fr)/\Rd S d.1 d.2 cs.toList :=
 let ⟨_,cs,E,fr,h1,h2⟩:=hg g d e
 ⟨cs,E,fr,hS _ _ h1,h2⟩
theorem ztw {S:Hp}{k:IntKind}:∀ {ns:List Int} {cs:List Value},Lift.All (Rd S (.int k)) ns cs->cs=ns.map (fun i=>Value.int k i)
 | [],_,h=>h
 | x::xs,_,⟨c1,c2,e,h1,h2⟩=>by
   have e1:c1=[.int k x]:=h1;rw[e,e1,ztw h2];rfl
def zyl (x:z1v [(0,.v (.int .i64))]):Option (List UInt8):=cond (decide (-9223372036854775808<=x.1) && decide (x.1<=9223372036854775807)) (some (Lib.itoa x.1)) none
def z125:List A->Res:=z2c [(0,.v (.int .i64))] zyl (zd0 (.v .str) 1)
theorem z1aq (glob:Nat->Option Dat)(hgl:glob 4=some ⟨.arr 20 (.int .u64),Lib.pow10Tab⟩):Contract Tryd.prog glob 37 z125:=by
 refine Contract.hand ⟨_,Tryd.func37,by kernel_rfl,by decide⟩ ?_;rintro w S vals ob ⟨n,⟨⟩⟩ y har hS hg hy;unfold zyl at hy;dsimp only at hy n;cases hck:(decide (-9223372036854775808<=n) && decide (n<=9223372036854775807)) with
 | false=>rw[hck] at hy;cases hy
 | true =>
 rw[hck] at hy;obtain rfl:=Option.some.inj (show some (Lib.itoa n)=some y from hy);simp only[Bool.and_eq_true,decide_eq_true_eq] at hck;obtain⟨⟨u1,e1,r1⟩,_⟩:=har.rel 0 _ rfl;have hob:∀ i,ob i=[]:=by
  intro i
  match i with
  | 0=>exact r1.2
  | i+1=>exact har.out _ (by simp[mkS,zad])
 have hvals:vals=[u1]:=by
  match vals,har.len,e1 with
  | [a],_,h1=>simp at h1;rw[h1]
 subst hvals;have e2:=r1.1.int_inv;subst e2;have htab : Lib.TabIs Tryd.prog w "internal/strconv.uint64pow10" .u64 Lib.pow10Tab := by
  obtain⟨cs,E,fr,h1,h2⟩:=zw0 hg hS hgl;have h3:=ztw h2.2;unfold Lib.TabIs;simp only [World.var?, show Tryd.prog.globalNamed "internal/strconv.uint64pow10" = some 4 by kernel_rfl, Option.bind_some, h1]
  rw[<- h3]
 refine (Any.strconv_Itoa z1am n hck.1 hck.2 w htab).mono ?_;rintro e w' ⟨rfl,k,os,rfl⟩;refine (zi3 hS ?_).ends hob (fun y hy=>?_) ⟨VR.str,rfl⟩ rfl
 . exact Go.Lib.below_grow _ _ (Nat.le_refl _) _ _
 . have hy:y∈[A.v (.int .i64) n]:=hy;rw[List.mem_singleton.1 hy];rfl
def zoy (s:List UInt8):Int:=match Lib.atoiAll s with
 | .ok v=>v
 | .range=>Lib.atoiSat s
 | _=>0
def ztq (x:z1v [(0,.v .str)]):Option (z48 [.int .i64,.any]):=cond (decide (x.1.length<=281474976710656)) (some (zoy x.1,((),()))) none
def z12l:List A->Res:=z2c [(0,.v .str)] ztq (zd0 (.tup [.int .i64,.any]) 1)
theorem z12f {glob:Nat->Option Dat}{S:Hp}{w:World}(hg:GlobOk glob S)(hS:Lift.Sub S (hp w)){g ty:Nat}(e:glob g=some ⟨.ifc ty .any,some ()⟩):∃ ev,w.cell? ⟨g,0,none⟩=some ev/\(ev=.nilIface\/∃ te pe,ev=.iface te pe):=by
 obtain⟨cs,E,fr,h1,h2⟩:=zw0 hg hS e;have h3:(some ()=none/\cs.toList=[.nilIface])\/∃ y v,some ()=some y/\cs.toList=[.iface ty v]/\_:=h2;rcases h3 with⟨h,_⟩|⟨y,v,_,h4,_⟩
 . cases h
 . have:cs=#[.iface ty v]:=by apply Array.toList_inj.1;rw[h4]
   exact⟨.iface ty v,by simp[World.cell?,h1,this],.inr ⟨_,_,rfl⟩⟩
theorem z1b4 (glob:Nat->Option Dat){ty:Nat}(h2:glob 2=some ⟨.ifc ty .any,some ()⟩)(h3:glob 3=some ⟨.ifc ty .any,some ()⟩):Contract Tryd.prog glob 47 z12l:=by
 refine Contract.hand ⟨_,Tryd.func47,by kernel_rfl,by decide⟩ ?_;rintro w S vals ob ⟨s,⟨⟩⟩ y har hS hg hy;unfold ztq at hy;dsimp only at hy s;cases hck:decide (s.length<=281474976710656) with
 | false=>rw[hck] at hy;cases hy
 | true =>
 rw[hck] at hy;obtain rfl:=Option.some.inj (show some (zoy s,((),()))=some y from hy);have hl:=of_decide_eq_true hck;obtain⟨⟨u1,e1,r1⟩,_⟩:=har.rel 0 _ rfl;have hob:∀ i,ob i=[]:=by
  intro i
  match i with
  | 0=>exact r1.2
  | i+1=>exact har.out _ (by simp[mkS,zad])
 have hvals:vals=[u1]:=by
  match vals,har.len,e1 with
  | [a],_,h1=>simp at h1;rw[h1]
 subst hvals;have e2:=r1.1.str_inv;subst e2
 suffices hcall:Calls Tryd.prog 47 #[.string ⟨⟨s⟩⟩] w fun e w'=>(∃ v,e=.returned (.tuple #[.int .i64 (zoy s),v])/\v.oneCell'=true)/\Go.RowKit.Below w.heap.size w w' by
  refine hcall.mono ?_;rintro e w' ⟨⟨v,rfl,hv⟩,hb⟩;refine (zi3 hS hb).ends hob (fun y hy=>?_) (r:=.tup [⟨.int .i64,zoy s⟩,⟨.any,()⟩]) ⟨rfl,_,rfl,.cons VR.int (.cons (show VR S .any () v from ⟨v,rfl,hv⟩) .nil)⟩ rfl;have hy:y∈[A.v .str s]:=hy;rw[List.mem_singleton.1 hy];rfl
 cases ha:Lib.atoiAll s with
 | ok v =>
   have:zoy s=v:=by unfold zoy;rw[ha]
   rw[this];refine (Any.strconv_Atoi_ok z10e ⟨⟨s⟩⟩ (by show s.length<=_;omega) v ha w).mono ?_;rintro e w' ⟨rfl,hw⟩;refine⟨⟨_,rfl,rfl⟩,?_⟩;rcases hw with rfl|⟨t,rfl⟩
   . exact Go.RowKit.Below.refl _ _
   . exact Go.Lib.bytesWorld_below _ _ _
 | range =>
   have:zoy s=Lib.atoiSat s:=by unfold zoy;rw[ha]
   rw[this];obtain⟨ev,hv,hev⟩:=z12f hg hS h3;refine (Any.strconv_Atoi_range z10e ⟨⟨s⟩⟩ (by show s.length<=_;omega) ha ev w hv hev).mono ?_;rintro e w' ⟨N,rfl,_,_,hb⟩;exact⟨⟨_,rfl,rfl⟩,hb⟩
 | _ =>
   have:zoy s=0:=by unfold zoy;rw[ha]
   rw[this];obtain⟨ev,hv,hev⟩:=z12f hg hS h2;refine (Any.strconv_Atoi_syntax z10e ⟨⟨s⟩⟩ (by show s.length<=_;omega) ha ev w hv hev).mono ?_;rintro e w' ⟨N,rfl,_,_,hb⟩;exact⟨⟨_,rfl,rfl⟩,hb⟩
theorem zwg {ps:List (Nat×AS)}{w:World}{S:Hp}{vals:List Value}{ob:Nat->List Nat}{s t:List UInt8}(har:ArgsRel (hp w) S (mkS [(0,.v .str),(0,.v .str)] 0 (s,(t,()))) vals ob) :
 vals=[.string ⟨⟨s⟩⟩,.string ⟨⟨t⟩⟩]/\∀ i,ob i=[]:=by
 obtain⟨⟨v0,hv0,hA0,ho0⟩,_⟩:=har.rel 0 _ rfl;obtain⟨⟨v1,hv1,hA1,ho1⟩,_⟩:=har.rel 1 _ rfl;have hlen:=har.len;obtain⟨u0,u1,rfl⟩:∃ u0 u1,vals=[u0,u1]:=by
  have:vals.length=2:=by simpa[mkS,zad] using hlen.symm
  match vals,this with
  | [a,b],_=>exact⟨a,b,rfl⟩
 simp at hv0 hv1;subst hv0;subst hv1;refine⟨by rw[hA0.str_inv,hA1.str_inv],fun i=>?_⟩
 match i with
 | 0=>exact ho0
 | 1=>exact ho1
 | i+2=>exact har.out _ (by simp[mkS,zad])
theorem znk {s t:List UInt8}:∀ y∈mkS [(0,.v .str),(0,.v .str)] 0 (s,(t,())),zb2 y=false:=by
 intro y hy;have hy:y∈[A.v .str s,A.v .str t]:=hy;simp only[List.mem_cons,List.not_mem_nil,or_false] at hy;rcases hy with rfl|rfl<;>rfl
def z1a4 (x:z1v [(0,.v .str),(0,.v .str)]):Option (List UInt8):=some (Lib.trimPrefix x.1 x.2.1)
def zxq:List A->Res:=z2c [(0,.v .str),(0,.v .str)] z1a4 (zd0 (.v .str) 2)
theorem z17g (glob:Nat->Option Dat):Contract Tryd.prog glob 46 zxq:=by
 refine Contract.hand ⟨_,Tryd.func46,by kernel_rfl,by decide⟩ ?_;rintro w S vals ob ⟨s,t,⟨⟩⟩ y har hS hg hy;obtain rfl:=Option.some.inj (show some (Lib.trimPrefix s t)=some y from hy);obtain⟨rfl,hob⟩:=zwg (ps:=[]) har;refine (Any.strings_TrimPrefix z1ao ⟨⟨s⟩⟩ ⟨⟨t⟩⟩ w).mono ?_;rintro e w' ⟨rfl,rfl⟩;exact (zi3 hS (Go.RowKit.Below.refl _ _)).ends hob znk ⟨VR.str,rfl⟩ rfl
def cnt_F (x:z1v [(0,.v .str),(0,.v .str)]):Option Int:=match x.2.1 with
 | [c]=>some ((Lib.countByte x.1 c:Nat):Int)
 | _=>none
def z16i:List A->Res:=z2c [(0,.v .str),(0,.v .str)] cnt_F (zd0 (.v (.int .i64)) 2)
theorem z1ck (glob:Nat->Option Dat):Contract Tryd.prog glob 30 z16i:=by
 refine Contract.hand ⟨_,Tryd.func30,by kernel_rfl,by decide⟩ ?_;rintro w S vals ob ⟨s,t,⟨⟩⟩ y har hS hg hy;obtain⟨rfl,hob⟩:=zwg (ps:=[]) har
 match t,hy with
 | [c],hy =>
   obtain rfl:=Option.some.inj (show some ((Lib.countByte s c:Nat):Int)=some y from hy);refine (Any.strings_Count_one z1an ⟨⟨s⟩⟩ c w).mono ?_;rintro e w' ⟨rfl,rfl⟩;exact (zi3 hS (Go.RowKit.Below.refl _ _)).ends hob znk ⟨VR.int,rfl⟩ rfl
def z1as (x:z1v [(0,.v .str),(0,.v .str)]):Option Int:=match x.2.1 with
 | [c]=>some (Lib.indexByte x.1 c)
 | _=>none
def z15y:List A->Res:=z2c [(0,.v .str),(0,.v .str)] z1as (zd0 (.v (.int .i64)) 2)
theorem z1cd (glob:Nat->Option Dat):Contract Tryd.prog glob 71 z15y:=by
 refine Contract.hand ⟨_,Tryd.func71,by kernel_rfl,by decide⟩ ?_;rintro w S vals ob ⟨s,t,⟨⟩⟩ y har hS hg hy;obtain⟨rfl,hob⟩:=zwg (ps:=[]) har
 match t,hy with
 | [c],hy =>
   obtain rfl:=Option.some.inj (show some (Lib.indexByte s c)=some y from hy);refine (Any.stringslite_Index_one z1al ⟨⟨s⟩⟩ c w).mono ?_;rintro e w' ⟨rfl,rfl⟩;exact (zi3 hS (Go.RowKit.Below.refl _ _)).ends hob znk ⟨VR.int,rfl⟩ rfl
end
end Go.Proofs.YtlmlihfmoabinaaDoorLg
